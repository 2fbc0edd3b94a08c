package kern

import (
	"iter"
	"slices"

	"candling/api"
)

// send puts a signal behind those that were sent to the thread, and reports whether it could.
func (t *thread) send(sig int) bool {
	if t.Status == api.ThDone || len(t.Sent) >= api.MaxSent {
		return false
	}
	t.Sent = append(t.Sent, sig)
	return true
}

// isBlocked reports whether the mask of the thread has a signal; it never has SigKill.
func (t *thread) isBlocked(sig int) bool { return t.Mask>>(sig-1)&1 == 1 }

// nextSignal returns the index of the first signal of Sent that is not blocked, or -1.
func (t *thread) nextSignal() int {
	return slices.IndexFunc(t.Sent, func(sig int) bool { return !t.isBlocked(sig) })
}

// deliverSent takes a signal out of Sent, and delivers it.
func (u *turn) deliverSent(i int) {
	sig := u.Sent[i]
	u.Sent = slices.Delete(u.Sent, i, i+1)
	u.deliver(sig, 0)
}

// raise delivers a signal that cannot wait.
func (u *turn) raise(sig int, addr uint32) {
	if u.isBlocked(sig) {
		u.endBy(sig)
	}
	u.deliver(sig, addr)
}

// deliver lets the thread enter the handler of a signal.
func (u *turn) deliver(sig int, addr uint32) {
	handler := u.machine.world.Actions[sig-1]
	if handler == 0 {
		u.endBy(sig)
	}
	at := u.CPU.R[api.SP] - api.FrameLen
	if _, ok := u.machine.memory.Write(at, frameOf(u.Thread).bytes()); !ok {
		u.endBy(api.SigSegv)
	}
	u.see(api.Event{Kind: api.EvStore, A: at, N: api.FrameLen})
	u.see(api.Event{Kind: api.EvSignal, N: sig, A: handler})
	u.CPU.R[1], u.CPU.R[2], u.CPU.R[api.SP] = uint32(sig), addr, at
	u.CPU.PC = handler
	u.Mask |= 1 << (sig - 1)
}

// endBy ends the run by a signal.
func (u *turn) endBy(sig int) {
	u.see(api.Event{Kind: api.EvSignal, N: sig})
	u.end(0, sig)
}

// frame is what stands on the stack below a handler: all that the thread had in registers.
type frame struct {
	r               [16]uint32
	pc, flags, mask uint32
	v               [8]api.Vec
}

func frameOf(t api.Thread) *frame {
	return &frame{t.CPU.R, t.CPU.PC, uint32(t.CPU.F), uint32(t.Mask), t.CPU.V}
}

// cpu returns the registers of a frame.
func (f *frame) cpu() api.CPU {
	return api.CPU{R: f.r, PC: f.pc, F: int(f.flags & mostFlags), V: f.v}
}

// words yields the words of a frame, in the order in which they stand on the stack.
func (f *frame) words() iter.Seq[*uint32] {
	return func(yield func(*uint32) bool) {
		isOn := true
		for i := range f.r {
			isOn = isOn && yield(&f.r[i])
		}
		isOn = isOn && yield(&f.pc) && yield(&f.flags) && yield(&f.mask)
		for i := range f.v {
			for k := range f.v[i] {
				isOn = isOn && yield(&f.v[i][k])
			}
		}
	}
}

// bytes returns the bytes of a frame.
func (f *frame) bytes() []byte {
	var b []byte
	for w := range f.words() {
		b = append(b, byte(*w), byte(*w>>8), byte(*w>>16), byte(*w>>24))
	}
	return b
}

// frameIn returns the frame with these bytes.
func frameIn(b []byte) *frame {
	f := &frame{}
	for w := range f.words() {
		*w = uint32(b[0]) | uint32(b[1])<<8 | uint32(b[2])<<16 | uint32(b[3])<<24
		b = b[4:]
	}
	return f
}

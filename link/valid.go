package link

import "candling/api"

// Limits of images that package api does not name.
const (
	maxSize       = 65536 // Size of a symbol
	maxFrom       = 40    // Object of a symbol
	maxImageFiles = 400
	maxFileName   = 100
)

// Check returns ErrImage unless i is a valid image.
func Check(i api.Image) api.Errno {
	if areSegments(i.Segments) && areSymbols(i.Symbols) && areFiles(i.Files) && areLines(i) {
		return api.OK
	}
	return api.ErrImage
}

func areSegments(l []api.Segment) bool {
	if len(l) > api.MaxSegments {
		return false
	}
	end, size := 0, 0
	for _, s := range l {
		isOne := len(s.B) > 0 && isWithin(s.Rights, 1, rights-1) && s.At%api.PageSize == 0 && int(s.At) >= end
		end, size = endOfSegment(s), size+len(s.B)
		if !isOne || end > api.MaxSpace || size > api.MaxImage {
			return false
		}
	}
	return true
}

// endOfSegment returns the address behind the last byte of a segment.
func endOfSegment(s api.Segment) int { return int(s.At) + len(s.B) }

func areSymbols(l []api.ImageSym) bool {
	if len(l) > api.MaxImageSym {
		return false
	}
	for i, s := range l {
		isSorted := i == 0 || compareSymbols(l[i-1], s) <= 0
		if !isSorted || !isSymbol(s) {
			return false
		}
	}
	return true
}

func isSymbol(s api.ImageSym) bool {
	return isName(s.Name) &&
		isWithin(s.Size, 0, maxSize) &&
		isWithin(s.Kind, api.SyNone, api.SyData) &&
		isWithin(s.Object, 0, maxFrom)
}

func isWithin(n, least, most int) bool { return n >= least && n <= most }

func isName(s string) bool {
	if !isWithin(len(s), 1, api.MaxName) || !isNameStart(s[0]) {
		return false
	}
	for i := range len(s) {
		if !isNamePart(s[i]) {
			return false
		}
	}
	return true
}

func isNameStart(c byte) bool {
	return c >= 'A' && c <= 'Z' || c >= 'a' && c <= 'z' || c == '_' || c == '.'
}

func isNamePart(c byte) bool { return isNameStart(c) || c >= '0' && c <= '9' || c == '$' }

func areFiles(l []string) bool {
	if len(l) > maxImageFiles {
		return false
	}
	isKnown := map[string]bool{}
	for _, name := range l {
		if isKnown[name] || !isFileName(name) {
			return false
		}
		isKnown[name] = true
	}
	return true
}

func isFileName(s string) bool {
	if !isWithin(len(s), 1, maxFileName) {
		return false
	}
	for i := range len(s) {
		if !isWithin(int(s[i]), '!', '~') {
			return false
		}
	}
	return true
}

func areLines(i api.Image) bool {
	if len(i.Lines) > api.MaxImageLn {
		return false
	}
	end := 0
	for _, l := range i.Lines {
		isOne := isWithin(l.File, 0, len(i.Files)-1) &&
			isWithin(l.Line, 1, api.MaxLine) &&
			isWithin(l.N, 1, bytesFrom(i, l.At)) &&
			int(l.At) >= end
		if !isOne {
			return false
		}
		end = int(l.At) + l.N
	}
	return true
}

// bytesFrom returns how many bytes stand in the segment of an address from there on: none, if it lies in no segment.
func bytesFrom(i api.Image, at uint32) int {
	for _, s := range i.Segments {
		if at >= s.At && int(at) < endOfSegment(s) {
			return endOfSegment(s) - int(at)
		}
	}
	return 0
}

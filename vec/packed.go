package vec

import (
	"herald/api"
	"herald/fixed"
)

const (
	halfBits = 4
	halfMask = 1<<halfBits - 1
	mostHalf = 7             // on both sides of 0, so that noHalf never comes out
	noHalf   = 8             // the 4 bits that would say -8
	mostPack = 5             // the shift by which every 8-bit number has room in 4 bits
	inByte   = 8 / halfBits  // numbers of a byte
	toSigned = 64 - halfBits // brings the sign of 4 bits to that of 64
)

// Pack is numbers of 8 bits brought to 4 bits, with a shift for each group.
func Pack(l []int8, group int) (api.Packed, api.Errno) {
	if e := bounded(l); e != api.OK {
		return api.Packed{}, e
	}
	if !isGroup(group) {
		return api.Packed{}, api.ErrGroup
	}
	shifts, halves := make([]byte, parts(len(l), group)), make([]byte, parts(len(l), inByte))
	for i := range shifts {
		shifts[i] = shiftOf(l[i*group : min((i+1)*group, len(l))])
	}
	for i, x := range l {
		four := byte(round(int64(x), int(shifts[i/group]))) & halfMask
		halves[i/inByte] |= four << (i % inByte * halfBits)
	}
	return api.Packed{Count: len(l), Group: group, Shifts: shifts, Halves: halves}, api.OK
}

// Unpack is what packed numbers say.
func Unpack(p api.Packed) ([]int8, api.Errno) {
	if !isRight(p) {
		return nil, api.ErrPacked
	}
	l := make([]int8, p.Count)
	for i := range l {
		l[i] = fixed.Narrow(said(p.Halves, i) << p.Shifts[i/p.Group])
	}
	return l, api.OK
}

// TimesPacked is Times of what packed numbers say.
func TimesPacked(p api.Packed, cols int, x []int8) ([]int64, api.Errno) {
	w, e := Unpack(p)
	if e != api.OK {
		return nil, e
	}
	return Times(w, cols, x)
}

func isGroup(group int) bool { return group >= 1 && group <= api.MaxGroup }

// parts is how many parts of a size n things fill or begin.
func parts(n, size int) int { return (n + size - 1) / size }

// shiftOf is the shift of a group. What has room keeps it as the shift grows, so that one walk is enough.
func shiftOf(group []int8) byte {
	shift := 0
	for _, x := range group {
		for !hasRoom(x, shift) {
			shift++
		}
	}
	return byte(shift)
}

// hasRoom tells whether a number, rounded by a shift, has room in 4 bits; by mostPack each has.
func hasRoom(x int8, shift int) bool {
	n := round(int64(x), shift)
	return n >= -mostHalf && n <= mostHalf
}

// said is the number whose 4 bits stand at a place.
func said(halves []byte, i int) int64 {
	four := halves[i/inByte] >> (i % inByte * halfBits)
	return int64(four) << toSigned >> toSigned
}

// isRight tells whether packed numbers are right: the sizes first, as the bytes are looked at by them.
func isRight(p api.Packed) bool {
	if p.Count < 0 || p.Count > api.MaxCells || !isGroup(p.Group) {
		return false
	}
	if len(p.Shifts) != parts(p.Count, p.Group) || len(p.Halves) != parts(p.Count, inByte) {
		return false
	}
	for _, shift := range p.Shifts {
		if shift > mostPack {
			return false
		}
	}
	for _, b := range p.Halves {
		if b&halfMask == noHalf || b>>halfBits == noHalf {
			return false
		}
	}
	return p.Count%inByte == 0 || p.Halves[p.Count/inByte]>>halfBits == 0
}

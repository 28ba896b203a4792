// Package crc is layer 2: see shared/doc/02-crc.md.
package crc

import "remora/api"

const (
	poly    = 0xEDB88320
	ones    = 0xFFFFFFFF
	sumSize = 4
	// A register is a polynomial over two elements, its highest bit the lowest power;
	// a shift is a multiplication by x.
	one     = 1 << 31
	oneByte = one >> 8 // x^8: what a register is multiplied by, when it goes on by a byte
)

// table: what the four bits that fall out leave behind, when a register is shifted by as many.
// Half a byte at a time, so that the table is short enough to be written out.
var table = [16]uint32{
	0x00000000, 0x1DB71064, 0x3B6E20C8, 0x26D930AC,
	0x76DC4190, 0x6B6B51F4, 0x4DB26158, 0x5005713C,
	0xEDB88320, 0xF00F9344, 0xD6D6A3E8, 0xCB61B38C,
	0x9B64C2B0, 0x86D3D2D4, 0xA00AE278, 0xBDBDF21C,
}

// Of: the sum of all parts, one behind the other.
func Of(parts ...[]byte) uint32 {
	reg := uint32(ones)
	for _, part := range parts {
		for _, c := range part {
			reg ^= uint32(c)
			reg = reg>>4 ^ table[reg&15]
			reg = reg>>4 ^ table[reg&15]
		}
	}
	return ^reg
}

// Join: the sum of two texts, of which the second has n bytes, out of both sums.
func Join(a, b uint32, n int) uint32 {
	step := uint32(oneByte)
	for n > 0 {
		if n&1 == 1 {
			a = times(a, step)
		}
		// By squares, since n may be far too great to be counted down.
		step = times(step, step)
		n >>= 1
	}
	return a ^ b
}

// Seal: b, and its sum behind it.
func Seal(b []byte) []byte {
	out := make([]byte, len(b), len(b)+sumSize)
	copy(out, b)
	sum := Of(b)
	for i := range sumSize {
		out = append(out, byte(sum>>(8*i)))
	}
	return out
}

// Open: what was sealed.
func Open(b []byte) ([]byte, api.Errno) {
	if len(b) < sumSize {
		return nil, api.ErrEnd
	}
	end := len(b) - sumSize
	var laid uint32
	for i := range sumSize {
		laid |= uint32(b[end+i]) << (8 * i)
	}
	if laid != Of(b[:end]) {
		return nil, api.ErrSum
	}
	out := make([]byte, end)
	copy(out, b)
	return out, api.OK
}

// times: the product of two registers, as polynomials.
func times(a, b uint32) uint32 {
	var out uint32
	for bit := uint32(one); bit != 0; bit >>= 1 {
		if a&bit != 0 {
			out ^= b
		}
		b = shifted(b)
	}
	return out
}

// shifted: a register, shifted down by one bit.
func shifted(reg uint32) uint32 {
	if reg&1 == 1 {
		return reg>>1 ^ poly
	}
	return reg >> 1
}

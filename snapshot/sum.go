package snapshot

// sums are what four bits, shifted out of a sum one by one, are xored with it as in all.
var sums = [16]uint32{
	0x00000000, 0x1db71064, 0x3b6e20c8, 0x26d930ac,
	0x76dc4190, 0x6b6b51f4, 0x4db26158, 0x5005713c,
	0xedb88320, 0xf00f9344, 0xd6d6a3e8, 0xcb61b38c,
	0x9b64c2b0, 0x86d3d2d4, 0xa00ae278, 0xbdbdf21c,
}

// Sum is the sum of all bytes of some rows, one row behind the other.
func Sum(l ...[]byte) uint32 {
	sum := ^uint32(0)
	for _, b := range l {
		for _, c := range b {
			sum ^= uint32(c)
			sum = sum>>4 ^ sums[sum&15]
			sum = sum>>4 ^ sums[sum&15]
		}
	}
	return ^sum
}

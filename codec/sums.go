package codec

// The register of Crc holds a polynomial over two elements, the coefficient of x^0 in its highest bit; crcTurn is what x^32 comes to.
const (
	crcTurn  uint32 = 0x82F63B78
	crcOne   uint32 = 1 << 31
	crcByte  uint32 = crcOne >> 8 // x^8: what a byte 0 multiplies the register by
	fnvStart uint64 = 14695981039346656037
	fnvTimes uint64 = 1099511628211
)

// crcSteps holds what each lowest byte of the register comes to in eight steps.
var crcSteps = makeCrcSteps()

func makeCrcSteps() [256]uint32 {
	var steps [256]uint32
	for i := range steps {
		steps[i] = uint32(i)
		for range 8 {
			steps[i] = crcStep(steps[i])
		}
	}
	return steps
}

// crcStep shifts the register by one bit: it multiplies by x.
func crcStep(register uint32) uint32 {
	if register&1 == 1 {
		return register>>1 ^ crcTurn
	}
	return register >> 1
}

// Crc gives the CRC-32C of bytes.
func Crc(b []byte) uint32 { return CrcMore(0, b) }

// CrcMore goes on from a sum.
func CrcMore(crc uint32, b []byte) uint32 {
	register := ^crc
	for _, c := range b {
		register = register>>8 ^ crcSteps[byte(register)^c]
	}
	return ^register
}

// CrcJoin gives the sum of two texts one behind the other: their sums, and the second one's length.
func CrcJoin(a uint32, b uint32, n int) uint32 {
	// n bytes 0 multiply by x^(8n), which squares of x^8 make up in as many turns as n has bits.
	for power := crcByte; n > 0; n >>= 1 {
		if n&1 == 1 {
			a = crcProduct(a, power)
		}
		power = crcProduct(power, power)
	}
	return a ^ b
}

// crcProduct multiplies two polynomials as the register does.
func crcProduct(a, b uint32) uint32 {
	var product uint32
	for ; a != 0; a <<= 1 {
		if a&crcOne != 0 {
			product ^= b
		}
		b = crcStep(b)
	}
	return product
}

// Fnv gives the FNV-1a sum of 64 bits.
func Fnv(b []byte) uint64 { return FnvMore(fnvStart, b) }

// FnvMore goes on from a sum.
func FnvMore(h uint64, b []byte) uint64 {
	for _, c := range b {
		h = (h ^ uint64(c)) * fnvTimes
	}
	return h
}

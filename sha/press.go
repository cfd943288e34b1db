package sha

const (
	wordBits  = 32
	blockSize = 64
	rounds    = 64

	// firstWords is how many of the rounds' words the block has itself.
	firstWords = 16
)

// Press answers h behind the block.
func Press(h [8]uint32, block [64]byte) [8]uint32 {
	k, w := constants(), spread(block)
	state := h
	for i := range rounds {
		state = round(state, k[i], w[i])
	}
	for i, n := range state {
		h[i] += n
	}
	return h
}

// round answers the state behind one round, with its constant k and its word w.
func round(state [8]uint32, k, w uint32) [8]uint32 {
	a, b, c, d := state[0], state[1], state[2], state[3]
	e, f, g, h := state[4], state[5], state[6], state[7]
	turnA, turnE := turning(a), turning(e)
	t1 := h + (turnE(6) ^ turnE(11) ^ turnE(25)) + choice(e, f, g) + k + w
	t2 := (turnA(2) ^ turnA(13) ^ turnA(22)) + majority(a, b, c)
	return [8]uint32{t1 + t2, a, b, c, d + t1, e, f, g}
}

// spread answers the words W of all rounds.
func spread(block [64]byte) [rounds]uint32 {
	var w [rounds]uint32
	for i, c := range block {
		w[i/4] = w[i/4]<<8 | uint32(c)
	}
	for i := firstWords; i < rounds; i++ {
		x, y := w[i-15], w[i-2]
		turnX, turnY := turning(x), turning(y)
		s0 := turnX(7) ^ turnX(18) ^ x>>3
		s1 := turnY(17) ^ turnY(19) ^ y>>10
		w[i] = w[i-16] + s0 + w[i-7] + s1
	}
	return w
}

// turning answers what turns x right by so many bits.
func turning(x uint32) func(n uint) uint32 {
	return func(n uint) uint32 {
		return x>>n | x<<(wordBits-n)
	}
}

// choice answers of each bit y's, where x has a 1, else z's.
func choice(x, y, z uint32) uint32 {
	return x&y | ^x&z
}

// majority answers of each bit what two of the three have.
func majority(x, y, z uint32) uint32 {
	return x&y | x&z | y&z
}

// beginning answers the state ahead of all blocks, H0 to H7.
func beginning() [8]uint32 {
	return [8]uint32{
		0x6a09e667, 0xbb67ae85, 0x3c6ef372, 0xa54ff53a, 0x510e527f, 0x9b05688c, 0x1f83d9ab, 0x5be0cd19,
	}
}

// constants answers K0 to K63. They stand within a function since at package level the document wants constants alone.
func constants() [rounds]uint32 {
	return [rounds]uint32{
		0x428a2f98, 0x71374491, 0xb5c0fbcf, 0xe9b5dba5, 0x3956c25b, 0x59f111f1, 0x923f82a4, 0xab1c5ed5,
		0xd807aa98, 0x12835b01, 0x243185be, 0x550c7dc3, 0x72be5d74, 0x80deb1fe, 0x9bdc06a7, 0xc19bf174,
		0xe49b69c1, 0xefbe4786, 0x0fc19dc6, 0x240ca1cc, 0x2de92c6f, 0x4a7484aa, 0x5cb0a9dc, 0x76f988da,
		0x983e5152, 0xa831c66d, 0xb00327c8, 0xbf597fc7, 0xc6e00bf3, 0xd5a79147, 0x06ca6351, 0x14292967,
		0x27b70a85, 0x2e1b2138, 0x4d2c6dfc, 0x53380d13, 0x650a7354, 0x766a0abb, 0x81c2c92e, 0x92722c85,
		0xa2bfe8a1, 0xa81a664b, 0xc24b8b70, 0xc76c51a3, 0xd192e819, 0xd6990624, 0xf40e3585, 0x106aa070,
		0x19a4c116, 0x1e376c08, 0x2748774c, 0x34b0bcb5, 0x391c0cb3, 0x4ed8aa4a, 0x5b9cca4f, 0x682e6ff3,
		0x748f82ee, 0x78a5636f, 0x84c87814, 0x8cc70208, 0x90befffa, 0xa4506ceb, 0xbef9a3f7, 0xc67178f2,
	}
}

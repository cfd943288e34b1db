package draw

import "testing"

// No state is known of which 64 words are too great for a number, so that tries are at an end is asked here, of a last
// word that hardly any word is up to.
func TestP5_3TriesAreAtAnEndBehind64Words(t *testing.T) {
	const tries = 64
	for _, state := range []uint64{0, 1, 9, 1234567, 1 << 63, 1<<64 - 1} {
		want, behind := uint64(0), state
		for range tries {
			want, behind = Next(behind)
		}
		if word, next := firstUpTo(state, 0); word != want || next != behind {
			t.Errorf("firstUpTo(%d, 0) = %d, %d, not %d, %d", state, word, next, want, behind)
		}
	}
}

func TestP5_3TheLastTryMayBeTheOne(t *testing.T) {
	// A state of 0 is behind the word 0: these states have it as their first to their 66th word.
	for ahead := range uint64(66) {
		state := -(ahead + 1) * stride
		word, next := firstUpTo(state, 0)
		taken := min(ahead+1, 64)
		if next != state+taken*stride || (word == 0) != (ahead < 64) {
			t.Errorf("with 0 behind %d words: firstUpTo = %d behind %d", ahead, word, (next-state)/stride)
		}
	}
}

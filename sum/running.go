package sum

const (
	start = 14695981039346656037 // the sum of no words
	prime = 1099511628211
)

// number is a word that other words are taken into.
type number uint64

func (n *number) take(w uint64) { *n = (*n ^ number(w)) * prime }

func (n number) told() uint64 { return uint64(n) }

// seal is never 0, so that 0 can stand for no seal.
func (n number) seal() uint64 { return max(uint64(n), 1) }

// running is a sum under way.
type running struct{ number }

// fold leads what takes them through words, one by one.
func fold[W ~uint64](l []W, take func(W)) {
	for _, w := range l {
		take(w)
	}
}

package key

import "diwan/api"

// A byte of a key is seen and is no blank.
const (
	lowest  = 33
	highest = 126
)

// name is what is asked whether it may be a key, and where it stands.
type name string

// may tells whether k has as many bytes as a key may have, all of them such as may be.
func (k name) may() bool {
	if k == "" || len(k) > api.MaxKey {
		return false
	}
	for _, c := range []byte(k) {
		if c < lowest || c > highest {
			return false
		}
	}
	return true
}

// sum tells what k's bytes come to.
func (k name) sum() int {
	all := 0
	for _, c := range []byte(k) {
		all += int(c)
	}
	return all
}

// below tells whether k stands ahead of other, by bytes.
func (k name) below(other name) bool {
	return k < other
}

// each tells whether is says yes of each of l.
func each(l []string, is func(name) bool) bool {
	for _, k := range l {
		if !is(name(k)) {
			return false
		}
	}
	return true
}

// eachTwo tells whether are says yes of each of l and the one behind it.
func eachTwo(l []string, are func(k, behind name) bool) bool {
	for i := 1; i < len(l); i++ {
		if !are(name(l[i-1]), name(l[i])) {
			return false
		}
	}
	return true
}

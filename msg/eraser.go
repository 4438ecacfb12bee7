package msg

import "diwan/api"

// eraser rubs out all that it is handed.
type eraser struct{}

func (eraser) number(v *int) { *v = 0 }

func (eraser) flag(yes *bool) { *yes = false }

func (eraser) text(s *string) { *s = "" }

func (eraser) txn(t *api.Txn) { *t = api.Txn{} }

func (eraser) size(_, _ int) int { return 0 }

// unnamed tells what m has that its Kind does not name.
func unnamed(m api.Msg) api.Msg {
	l := letter(m)
	// The body first: it hangs on the Kind, which is in the head.
	l.body(eraser{})
	l.head(eraser{})
	return api.Msg(l)
}

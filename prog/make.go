package prog

import (
	"gatewicket/api"
	"gatewicket/rex"
)

// Make: the instructions of the expression r (P19).
func Make(r api.Rex) ([]api.Inst, api.Errno) {
	if e := rex.Check(r); e != api.OK {
		return nil, e
	}
	return append(code(nil, r), api.Inst{Kind: api.IMatch}), api.OK
}

// code is the list p with the code of r behind it.
func code(p []api.Inst, r api.Rex) []api.Inst {
	switch r.Kind {
	case api.RNone, api.RByte:
		return append(p, api.Inst{Kind: api.IByte, Set: r.Set})
	case api.RBegin:
		return append(p, api.Inst{Kind: api.IBegin})
	case api.REnd:
		return append(p, api.Inst{Kind: api.IEnd})
	case api.RCat:
		return code(code(p, r.Kids[0]), r.Kids[1])
	case api.RAlt:
		return either(p, r.Kids[0], r.Kids[1])
	case api.RStar:
		return again(p, r.Kids[0])
	}
	return p
}

func either(p []api.Inst, a, b api.Rex) []api.Inst {
	split := len(p)
	p = code(append(p, api.Inst{Kind: api.ISplit, A: split + 1}), a)
	jump := len(p)
	p[split].B = jump + 1
	p = code(append(p, api.Inst{Kind: api.IJump}), b)
	p[jump].A = len(p)
	return p
}

func again(p []api.Inst, a api.Rex) []api.Inst {
	split := len(p)
	p = code(append(p, api.Inst{Kind: api.ISplit, A: split + 1}), a)
	p = append(p, api.Inst{Kind: api.IJump, A: split})
	p[split].B = len(p)
	return p
}

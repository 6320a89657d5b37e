package infer

import "changeling/api"

// settle puts what is known in the end in the place of all types of derivations.
func (f *finder) settle(l []api.DGroup) {
	each := visit(func(t *api.Type) { *t = f.whole(*t) })
	each.groups(l)
}

// visit is what is done with each type of derivations.
type visit func(*api.Type)

func (v visit) types(l []api.Type) {
	for i := range l {
		v(&l[i])
	}
}

func (v visit) groups(l []api.DGroup) {
	for _, g := range l {
		v.types(g.Types)
		for _, b := range g.Binds {
			for _, c := range b.Clauses {
				v.pats(c.Pats)
				v.bodies(c.Rhs)
			}
		}
	}
}

func (v visit) bodies(l []api.DRhs) {
	for i := range l {
		v.exprs(l[i].Guard)
		v.expr(&l[i].Body)
	}
}

func (v visit) pats(l []api.DPat) {
	for i := range l {
		v.pat(&l[i])
	}
}

func (v visit) pat(d *api.DPat) {
	v(&d.Type)
	v.types(d.Inst)
	v.pats(d.Args)
}

func (v visit) exprs(l []api.Deriv) {
	for i := range l {
		v.expr(&l[i])
	}
}

func (v visit) expr(d *api.Deriv) {
	v(&d.Type)
	v.types(d.Inst)
	v.exprs(d.Args)
	for i := range d.Alts {
		v.pat(&d.Alts[i].Pat)
		v.bodies(d.Alts[i].Rhs)
	}
	v.groups(d.Groups)
}

package shell

import "strata/api"

func readGet(w *words) deed {
	q := readQuestion(w)
	return func(x *Shell) ([]string, api.Errno) {
		p, err := x.machine.Query(q)
		if err != api.OK {
			return nil, err
		}
		return x.page(p), api.OK
	}
}

func readQuestion(w *words) api.Query {
	q := api.Query{From: w.literal(), To: w.literal(), N: w.number(), Rows: w.number(), Time: w.number()}
	q.Reverse = w.skip("back")
	if w.skip("fam") {
		q.Fams = readFamilies(w)
	}
	if w.skip("prefix") {
		q.Prefix = w.literal()
	}
	if w.skip("where") {
		q.Where = string(w.literal())
	}
	if w.skip("token") {
		q.Token = w.literal()
	}
	return q
}

func readFamilies(w *words) []int {
	l := []int{w.family()}
	for w.skip(comma) {
		l = append(l, w.family())
	}
	return l
}

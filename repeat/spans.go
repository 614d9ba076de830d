package repeat

import "slices"

// span of bytes of a unit: from one up to another, without that.
type span struct{ from, to int }

// spans of one unit, rising; between two of them there is at least one byte.
type spans []span

// add all bytes of a span that has some.
func (l *spans) add(x span) {
	begin := 0
	for begin < len(*l) && (*l)[begin].to < x.from {
		begin++
	}
	end := begin
	for end < len(*l) && (*l)[end].from <= x.to {
		x = span{min(x.from, (*l)[end].from), max(x.to, (*l)[end].to)}
		end++
	}
	*l = slices.Replace(*l, begin, end, x)
}

// cut the first span out, but no more than so many of its bytes; there must be one.
func (l *spans) cut(size int) span {
	first := &(*l)[0]
	x := span{first.from, min(first.to, first.from+size)}
	first.from = x.to
	if first.from == first.to {
		*l = slices.Delete(*l, 0, 1)
	}
	return x
}

// end is behind all bytes.
func (l spans) end() int {
	if len(l) == 0 {
		return 0
	}
	return l[len(l)-1].to
}

// gaps are what of a span is in none of these, rising.
func (l spans) gaps(x span) spans {
	var found spans
	from := x.from
	for _, y := range l {
		if to := min(x.to, y.from); from < to {
			found = append(found, span{from, to})
		}
		from = max(from, y.to)
	}
	if from < x.to {
		found = append(found, span{from, x.to})
	}
	return found
}

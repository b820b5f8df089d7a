package head

import (
	"slices"

	"pharos/api"
	"pharos/rlp"
)

// part is one of a message. The same parts write a message and read it, so its item has one form both ways.
type part interface {
	// item is the part's item.
	item() api.Item
	// read takes over what an item tells, and says whether it is such a part's.
	read(x api.Item) bool
}

// number is told by its bytes.
type number struct{ at *uint64 }

// text is told as it is.
type text struct{ at *string }

// texts are told as a list of however many there are.
type texts struct{ at *[]string }

// list is told as a list of just these parts.
type list []part

func (n number) item() api.Item { return rlp.Text(rlp.Number(*n.at)) }

func (n number) read(x api.Item) bool {
	value, e := rlp.Value(x.Text)
	*n.at = value
	return !x.IsList && e == api.OK
}

func (t text) item() api.Item { return rlp.Text(*t.at) }

func (t text) read(x api.Item) bool {
	*t.at = x.Text
	return !x.IsList
}

func (t texts) item() api.Item { return t.each().item() }

func (t texts) read(x api.Item) bool {
	// Of none the list stays nil, as it is in an empty message.
	*t.at = append([]string(nil), make([]string, len(x.List))...)
	return t.each().read(x)
}

// each is the texts there are, as parts.
func (t texts) each() list {
	l := make(list, len(*t.at))
	for i := range l {
		l[i] = text{&(*t.at)[i]}
	}
	return l
}

func (l list) item() api.Item {
	items := make([]api.Item, len(l))
	for i, p := range l {
		items[i] = p.item()
	}
	return rlp.List(items...)
}

func (l list) read(x api.Item) bool {
	right := x.IsList && len(x.List) == len(l)
reading:
	for i, inner := range slices.All(x.List) {
		if !right {
			break reading
		}
		right = l[i].read(inner)
	}
	return right
}

package head

import (
	"pharos/api"
	"pharos/rlp"
)

// BootBytes is a Boot's bytes, or that there are too many.
func BootBytes(b api.Boot) (string, api.Errno) {
	return rlp.Encode(boot(&b).item())
}

// BootFrom is the Boot whose bytes s is, or that there is none.
func BootFrom(s string) (api.Boot, api.Errno) {
	var b api.Boot
	if !read(s, boot(&b)) {
		return api.Boot{}, api.ErrHead
	}
	return b, api.OK
}

// Bytes is an update's bytes, or that there are too many.
func Bytes(u api.Update) (string, api.Errno) {
	return rlp.Encode(update(&u).item())
}

// From is the update whose bytes s is, or that there is none.
func From(s string) (api.Update, api.Errno) {
	var u api.Update
	if !read(s, update(&u)) {
		return api.Update{}, api.ErrHead
	}
	return u, api.OK
}

// read reads a message from its bytes, and tells whether they are such a one's.
func read(s string, message part) bool {
	// Bytes that are too many are no message's: none is written so.
	x, e := rlp.Decode(s)
	return e == api.OK && message.read(x)
}

func boot(b *api.Boot) part {
	return list{light(&b.Light), committee(&b.Now), texts{&b.Branch}}
}

func update(u *api.Update) part {
	return list{
		light(&u.Seen),
		committee(&u.Next), texts{&u.NextBranch},
		light(&u.Final), texts{&u.FinalBranch},
		number{&u.Bits}, text{&u.Sig}, number{&u.Slot},
	}
}

func light(l *api.Light) part {
	return list{header(&l.Beacon), exec(&l.Exec), texts{&l.Branch}}
}

func header(h *api.Header) part {
	return list{number{&h.Slot}, number{&h.Proposer}, text{&h.Parent}, text{&h.State}, text{&h.Body}}
}

func exec(x *api.Exec) part {
	return list{text{&x.Accounts}, text{&x.Receipts}, number{&x.Number}}
}

func committee(c *api.Committee) part {
	return list{texts{&c.Keys}, text{&c.Sum}}
}

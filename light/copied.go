package light

import (
	"strings"

	"pharos/api"
)

// copied is a store of new memory, no two of whose lists share any.
func copied(s api.Store) api.Store {
	s.Final, s.Newest = copiedLight(s.Final), copiedLight(s.Newest)
	s.Now, s.Next = copiedCommittee(s.Now), copiedCommittee(s.Next)
	s.Best = copiedUpdate(s.Best)
	return s
}

func copiedUpdate(u api.Update) api.Update {
	u.Seen, u.Final = copiedLight(u.Seen), copiedLight(u.Final)
	u.Next = copiedCommittee(u.Next)
	u.NextBranch, u.FinalBranch = copiedTexts(u.NextBranch), copiedTexts(u.FinalBranch)
	u.Sig = strings.Clone(u.Sig)
	return u
}

func copiedLight(l api.Light) api.Light {
	h, x := &l.Beacon, &l.Exec
	for _, at := range []*string{&h.Parent, &h.State, &h.Body, &x.Accounts, &x.Receipts} {
		*at = strings.Clone(*at)
	}
	l.Branch = copiedTexts(l.Branch)
	return l
}

func copiedCommittee(c api.Committee) api.Committee {
	return api.Committee{Keys: copiedTexts(c.Keys), Sum: strings.Clone(c.Sum)}
}

// copiedTexts are the texts of a list; of none there is no list.
func copiedTexts(l []string) []string {
	var own []string
	for _, s := range l {
		own = append(own, strings.Clone(s))
	}
	return own
}

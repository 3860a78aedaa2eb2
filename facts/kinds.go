package facts

import (
	"statute/api"
	"statute/terms"
)

// Kinds of nodes.
const (
	or         = "or"
	and        = "and"
	not        = "not"
	some       = "some"
	every      = "every"
	nameKind   = "name"
	less       = "<"
	atMost     = "<="
	equal      = "="
	unequal    = "<>"
	atLeast    = ">="
	greater    = ">"
	numberKind = "number"
	count      = "count"
	total      = "total"
	plus       = "+"
	minus      = "-"
	times      = "*"
	maximum    = "max"
	minimum    = "min"
)

// none is the number of kids of a kind that there is not.
const none = -1

// kidsOfCondition is how many kids a condition of a kind has.
func kidsOfCondition(kind string) int {
	switch kind {
	case nameKind:
		return 0
	case not, some, every:
		return 1
	case or, and:
		return 2
	}
	if isOrder(kind) {
		return 2
	}
	return none
}

// kidsOfSum is how many kids a sum of a kind has.
func kidsOfSum(kind string) int {
	switch kind {
	case numberKind, nameKind, count:
		return 0
	case times, total:
		return 1
	case plus, minus, maximum, minimum:
		return 2
	}
	return none
}

func isOrder(kind string) bool {
	switch kind {
	case less, atMost, equal, unequal, atLeast, greater:
		return true
	}
	return false
}

func hasWord(kind string) bool {
	switch kind {
	case some, every, nameKind, count, total:
		return true
	}
	return false
}

// isRight tells whether a node is such as can be asked for, as far as can be told without its kids.
func (a ask) isRight() bool {
	n := a.node
	kids := kidsOfCondition(n.Kind)
	if a.sum {
		kids = kidsOfSum(n.Kind)
	}
	switch {
	case kids == none || len(n.Kids) != kids:
		return false
	case hasWord(n.Kind) && !terms.IsWord(n.Word):
		return false
	case n.Kind == numberKind:
		return 0 <= n.N && n.N <= api.MaxCoin
	case n.Kind == total:
		// Nobody asks for this kid: its word is taken as it is.
		kid := ask{node: &n.Kids[0], sum: true}
		return kid.node.Kind == nameKind && kid.isRight()
	}
	return true
}

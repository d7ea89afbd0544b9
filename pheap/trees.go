package pheap

import "strait/arena"

// none stands where there is no cell.
const none = -1

// node is a vertex in a tree. What else it tells of are cells.
type node struct {
	v int
	// The first one of the list of those that hang below it.
	below int
	// The one behind it on its list. Of a tree's top it says nothing, as back doesn't.
	next int
	// The one ahead of it on its list; of the first one that which the list hangs below.
	back int
}

// trees are made of nodes. A tree is called by the cell of its top. Which of two vertices comes ahead is told by whoever calls.
type trees struct {
	nodes *arena.Arena[node]
	links int
}

// plant makes a tree of v alone. There must be room for it.
func (t *trees) plant(v int) int {
	cell, _ := t.nodes.Give(node{v: v, below: none})
	return cell
}

// fell takes the top of a tree away, and tells the list of what hung below it.
func (t *trees) fell(tree int) int {
	top, _ := t.nodes.Free(tree)
	return top.below
}

// meld makes one tree of two, of which each may be none: that which does not come ahead is hung below the other one.
func (t *trees) meld(a, b int, ahead func(u, v int) bool) int {
	switch {
	case a == none:
		return b
	case b == none:
		return a
	case ahead(t.at(a).v, t.at(b).v):
		t.hang(b, a)
		return a
	default:
		t.hang(a, b)
		return b
	}
}

// pair makes one tree of all of a list: on a first pass it melds neighbours, two by two, on a second one all of these, from the last one on.
func (t *trees) pair(list int, ahead func(u, v int) bool) int {
	pairs, whole := none, none
passes:
	for {
		var a, b int
		switch {
		case list != none:
			a, list = t.take(list)
			b, list = t.take(list)
			pairs = t.put(t.meld(a, b, ahead), pairs)
		case pairs != none:
			a, pairs = t.take(pairs)
			whole = t.meld(whole, a, ahead)
		default:
			break passes
		}
	}
	return whole
}

// hang hangs a tree below another one, ahead of what hangs there.
func (t *trees) hang(tree, above int) {
	top, low := t.at(above), t.at(tree)
	low.next, low.back = top.below, above
	t.setBack(top.below, tree)
	top.below = tree
	t.nodes.Set(tree, low)
	t.nodes.Set(above, top)
	t.links++
}

// cut takes a tree off the list on which it hangs.
func (t *trees) cut(tree int) {
	low := t.at(tree)
	back := t.at(low.back)
	if back.below == tree {
		back.below = low.next
	} else {
		back.next = low.next
	}
	t.nodes.Set(low.back, back)
	t.setBack(low.next, low.back)
}

// take tells the first tree of a list, and the rest of it. Of an empty list both are none.
func (t *trees) take(list int) (tree, rest int) {
	if list == none {
		return none, none
	}
	return list, t.at(list).next
}

// put makes a list of a tree, and of a list behind it that hangs below nothing.
func (t *trees) put(tree, list int) int {
	first := t.at(tree)
	first.next = list
	t.nodes.Set(tree, first)
	return tree
}

// at tells what is in a cell.
func (t *trees) at(cell int) node {
	n, _ := t.nodes.At(cell)
	return n
}

// setBack puts the cell back ahead of another one. Where that is none, nothing comes of it: the arena has no such cell.
func (t *trees) setBack(cell, back int) {
	n := t.at(cell)
	n.back = back
	t.nodes.Set(cell, n)
}

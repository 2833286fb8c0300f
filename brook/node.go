package brook

// node is one number of a graph, with what it keeps from one making of digits
// to the next.
type node struct {
	of     makeup
	digits []int // all that it has made
	taken  int   // how many digits it has taken of each of its parts; both give one at a time
}

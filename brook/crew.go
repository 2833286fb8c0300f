package brook

import (
	"sync"

	"brook/api"
)

// crew is the workers of a node and of all those beneath it. It stands only
// while digits are made.
type crew struct {
	workers [api.MaxNodes + 1]*worker // by handle; nil where the node takes no part
	ended   sync.WaitGroup
}

func startCrew(nodes []*node, h int) *crew {
	c := &crew{}
	c.hire(nodes, h)
	for _, w := range c.workers {
		if w != nil {
			c.ended.Go(w.work)
		}
	}
	return c
}

// hire makes a worker of the node and of those beneath it, one of each however
// many take of it. The handle 0 is of a part that the op has not.
func (c *crew) hire(nodes []*node, h int) *worker {
	if h != 0 && c.workers[h] == nil {
		n := nodes[h-1]
		c.workers[h] = newWorker(n, c.hire(nodes, n.of.a()), c.hire(nodes, n.of.b()))
	}
	return c.workers[h]
}

// end closes all channels, and answers when the last worker has ended.
func (c *crew) end() {
	for _, w := range c.workers {
		if w != nil {
			close(w.asked)
		}
	}
	c.ended.Wait()
}

package node

// Submitted: a running node is as one of which so many requests were submitted in this boot. A test that submitted them one by one would take too long.
func (n *Node) Submitted(count int) { n.run.count = count }

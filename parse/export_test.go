package parse

import "madrigal/api"

// Shortest returns the text by which Check looks at a tree.
func Shortest(n api.Node) (string, bool) { return written(n) }

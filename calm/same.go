package calm

import (
	"slices"

	"redoubt/api"
)

// same tells whether two lists have the same operations.
func same(a, b []api.Op) bool { return slices.EqualFunc(a, b, sameOp) }

func sameOp(a, b api.Op) bool {
	numbers := a.N == b.N && a.Epoch == b.Epoch && a.Kind == b.Kind && a.Site == b.Site
	asked := a.Client == b.Client && a.Seq == b.Seq && a.Name == b.Name
	return numbers && asked && a.Sheet.Size == b.Sheet.Size && slices.Equal(a.Sheet.Hashes, b.Sheet.Hashes)
}

package kind

import (
	"iter"

	"praxinoscope/api"
)

// row is a kind, its code, and what a macroblock of that kind has.
type row struct {
	kind  int
	code  string
	parts api.Parts
}

// table is all kinds.
type table [10]row

// kinds tells the table of all kinds, anew for whoever asks.
func kinds() table {
	return table{
		{api.KindIntra, "0001", api.Parts{Intra: true}},
		{api.KindIntraQuant, "0000001", api.Parts{Intra: true, Quant: true}},
		{api.KindInter, "1", api.Parts{Coded: true}},
		{api.KindInterQuant, "00001", api.Parts{Quant: true, Coded: true}},
		{api.KindMotion, "000000001", api.Parts{Vector: true}},
		{api.KindMotionCoded, "00000001", api.Parts{Vector: true, Coded: true}},
		{api.KindMotionQuant, "0000000001", api.Parts{Quant: true, Vector: true, Coded: true}},
		{api.KindFilter, "001", api.Parts{Vector: true, Filter: true}},
		{api.KindFilterCoded, "01", api.Parts{Vector: true, Filter: true, Coded: true}},
		{api.KindFilterQuant, "000001", api.Parts{Quant: true, Vector: true, Filter: true, Coded: true}},
	}
}

// codes goes through the codes of a table, each with its kind.
func (t table) codes() iter.Seq2[string, int] {
	return func(yield func(string, int) bool) {
		for _, r := range t {
			if !yield(r.code, r.kind) {
				return
			}
		}
	}
}

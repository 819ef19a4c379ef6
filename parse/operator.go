package parse

import "floodgate/api"

// How tightly expressions bind, the loosest ones first: one for each phrase of the grammar that has operands.
const (
	tightCons = iota
	tightOr
	tightAnd
	tightNot
	tightCompare
	tightSum
	tightTerm
	tightNeg
	tightPost
)

// operator is the node that an operator makes, how tightly this node binds, and how tightly its operands must.
type operator struct {
	kind        uint8
	tight       int
	left, right int
}

// operators are those with two operands, by their tokens. The operands say on which side several of them may follow each other, if they may.
func operators() map[string]operator {
	return map[string]operator{
		"::":  {api.ConsNode, tightCons, tightOr, tightCons},
		"or":  {api.OrNode, tightOr, tightOr, tightAnd},
		"and": {api.AndNode, tightAnd, tightAnd, tightNot},
		"==":  {api.EqNode, tightCompare, tightSum, tightSum},
		"!=":  {api.NeNode, tightCompare, tightSum, tightSum},
		"<":   {api.LtNode, tightCompare, tightSum, tightSum},
		"<=":  {api.LeNode, tightCompare, tightSum, tightSum},
		">":   {api.GtNode, tightCompare, tightSum, tightSum},
		">=":  {api.GeNode, tightCompare, tightSum, tightSum},
		"+":   {api.AddNode, tightSum, tightSum, tightTerm},
		"-":   {api.SubNode, tightSum, tightSum, tightTerm},
		"*":   {api.MulNode, tightTerm, tightTerm, tightNeg},
		"/":   {api.DivNode, tightTerm, tightTerm, tightNeg},
		"%":   {api.ModNode, tightTerm, tightTerm, tightNeg},
	}
}

// prefixes are the operators with one operand, which stands on their right.
func prefixes() map[string]operator {
	return map[string]operator{
		"not": {kind: api.NotNode, tight: tightNot, right: tightNot},
		"-":   {kind: api.NegNode, tight: tightNeg, right: tightNeg},
	}
}

// typeWords are the tokens with which types begin.
func typeWords() map[string]uint8 {
	return map[string]uint8{"int": api.IntType, "bool": api.BoolType, "[": api.ArrayType, "stream": api.StreamType}
}

// streamWords are the words that have an expression in brackets behind them.
func streamWords() map[string]uint8 {
	return map[string]uint8{"head": api.HeadNode, "tail": api.TailNode, "empty": api.EmptyNode, "size": api.SizeNode}
}

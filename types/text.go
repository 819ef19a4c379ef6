package types

import (
	"strings"

	"floodgate/api"
)

// maxParts is how many parts a type may have.
const maxParts = 20

// What Split says that a type is.
const (
	intWord    = "int"
	boolWord   = "bool"
	arrayWord  = "[]"
	streamWord = "stream"
)

// split returns the word of a type and the text of the type in it, at whose form it does not look; no word if no type begins so.
func split(s string) (word, part string) {
	if s == intWord || s == boolWord {
		return s, ""
	}
	if part, ok := strings.CutPrefix(s, streamWord+" "); ok {
		return streamWord, part
	}
	if rest, ok := strings.CutPrefix(s, "["); ok {
		if part, ok := strings.CutSuffix(rest, "]"); ok {
			return arrayWord, part
		}
	}
	return "", ""
}

// joined puts a type together from what Split says of it.
func joined(word, part string) string {
	switch word {
	case arrayWord:
		return "[" + part + "]"
	case streamWord:
		return streamWord + " " + part
	}
	return word
}

// tooDeep reports whether a type has more parts than it may.
func tooDeep(s string) bool {
	_, e := Deep(s)
	return e != api.OK
}

// typeKinds are the kinds of type nodes, by the words of their types.
func typeKinds() map[string]uint8 {
	return map[string]uint8{intWord: api.IntType, boolWord: api.BoolType, arrayWord: api.ArrayType, streamWord: api.StreamType}
}

// typeNodes returns the nodes of a type, each one behind the node of the type in it; they have no kids yet.
func typeNodes(s string) []api.TreeNode {
	word, part := split(s)
	if word == "" {
		return nil
	}
	return append(typeNodes(part), api.TreeNode{Kind: typeKinds()[word]})
}

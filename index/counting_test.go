package index

import (
	"slices"
	"testing"
)

// TestCounting has files that supersede themselves, or one another round and
// round: no bytes are known whose sum stands in themselves, so that only the
// ids can be asked.
func TestCounting(t *testing.T) {
	for _, x := range []struct {
		files map[string]File
		want  []string
	}{
		{nil, nil},
		{map[string]File{"a": {}}, []string{"a"}},
		{map[string]File{"a": {Supersedes: []string{"a"}}}, nil},
		{map[string]File{"a": {Supersedes: []string{"a"}}, "b": {}}, []string{"b"}},
		{map[string]File{"a": {Supersedes: []string{"b"}}, "b": {Supersedes: []string{"a"}}}, nil},
		{map[string]File{"a": {Supersedes: []string{"b"}}, "b": {Supersedes: []string{"a"}}, "c": {}}, []string{"c"}},
		{map[string]File{"a": {Supersedes: []string{"b"}}, "b": {Supersedes: []string{"c"}}, "c": {Supersedes: []string{"a"}}}, nil},
		{map[string]File{"a": {Supersedes: []string{"a", "b"}}, "b": {Supersedes: []string{"c"}}, "c": {}, "d": {}}, []string{"d"}},
		{map[string]File{"a": {Supersedes: []string{"x", "y"}}, "c": {Supersedes: []string{"b"}}, "b": {}}, []string{"a", "c"}},
		{map[string]File{"d": {}, "c": {}, "b": {}, "a": {}, "e": {}}, []string{"a", "b", "c", "d", "e"}},
	} {
		for range 20 { // the order in which a map is gone through differs
			if got := counting(x.files); !slices.Equal(got, x.want) {
				t.Errorf("counting(%v): %q, not %q", x.files, got, x.want)
			}
		}
	}
}

package sync

import (
	"slices"

	"waystone/lsa"
)

// placesOf tells at which place each key stands first.
func placesOf(keys []lsa.Key) map[lsa.Key]int {
	places := map[lsa.Key]int{}
	for i, k := range keys {
		if _, there := places[k]; !there {
			places[k] = i
		}
	}
	return places
}

func keysOf(heads []lsa.Header) []lsa.Key {
	var keys []lsa.Key
	for _, h := range heads {
		keys = append(keys, h.Key)
	}
	return keys
}

// join tells keys and, behind them, those of more that aren't among them yet, each once.
func join(keys, more []lsa.Key) []lsa.Key {
	places := placesOf(keys)
	joined := slices.Clone(keys)
	for _, k := range more {
		if _, there := places[k]; !there {
			places[k] = len(joined)
			joined = append(joined, k)
		}
	}
	return joined
}

// without tells keys less those that are gone.
func without(keys, gone []lsa.Key) []lsa.Key {
	places := placesOf(gone)
	var left []lsa.Key
	for _, k := range keys {
		if _, isGone := places[k]; !isGone {
			left = append(left, k)
		}
	}
	return left
}

// hasAll tells whether there is a header of each key.
func hasAll(heads []lsa.Header, keys []lsa.Key) bool {
	return len(without(keys, keysOf(heads))) == 0
}

// newer tells the keys of those heads, in order, of which own has none, or an older one; of several of a key own's first one counts.
func newer(heads, own []lsa.Header) []lsa.Key {
	places := placesOf(keysOf(own))
	var keys []lsa.Key
	for _, h := range heads {
		at, there := places[h.Key]
		if !there || lsa.Compare(h, own[at]) == 1 {
			keys = append(keys, h.Key)
		}
	}
	return keys
}

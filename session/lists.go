package session

import "messenger/api"

// keptKey: the key of a message that has not come.
type keptKey struct {
	point  string
	number int
	key    string
}

// stored answers a list of its own: none of the keys that go lies behind it.
func stored(list []keptKey, more []keptKey) []keptKey {
	over := len(list) + len(more) - api.MaxStore
	var newest []keptKey
	for i := 0; i < len(list); i++ {
		if i >= over {
			newest = append(newest, list[i])
		}
	}
	for i := 0; i < len(more); i++ {
		if i+len(list) >= over {
			newest = append(newest, more[i])
		}
	}
	return newest
}

// keptFor answers the first key for a message, and the others in a list of
// their own. No key is kept for it where that is the empty text.
func keptFor(list []keptKey, point string, number int) (string, []keptKey) {
	key := ""
	var others []keptKey
	for i := 0; i < len(list); i++ {
		if key == "" && list[i].number == number && list[i].point == point {
			key = list[i].key
		} else {
			others = append(others, list[i])
		}
	}
	return key, others
}

func has(list []string, text string) bool {
	for i := 0; i < len(list); i++ {
		if list[i] == text {
			return true
		}
	}
	return false
}

// parted answers a list's first text, and the others in a list of their own.
func parted(list []string) (string, []string) {
	first := ""
	var others []string
	for i := 0; i < len(list); i++ {
		if i == 0 {
			first = list[i]
		} else {
			others = append(others, list[i])
		}
	}
	return first, others
}

// joined answers a list of its own: another session may have the list that it
// was given.
func joined(list []string, text string) []string {
	var longer []string
	longer = append(longer, list...)
	longer = append(longer, text)
	return longer
}

package stow

import "strings"

// value is what a record tells of its key. (A struct: an empty text that was told is not one that was not.)
type value struct{ text string }

// records are those that hold for the next entry, by their keys.
type records map[string]value

// add lays the records of an x header's data over those that are there; false: the data is not records.
func (r records) add(data string) bool {
	for data != "" {
		key, text, length := cutRecord(data)
		if length == 0 {
			return false
		}
		if key == "path" || key == "linkpath" {
			r[key] = value{strings.Clone(text)}
		}
		data = data[length:]
	}
	return true
}

// over answers what the records tell of a key, or else the text by the header.
func (r records) over(key, text string) string {
	if told, ok := r[key]; ok {
		return told.text
	}
	return text
}

// cutRecord takes the first record out of some data: its key, its value and its length, which is 0 if there is none.
func cutRecord(data string) (string, string, int) {
	digits, _, _ := strings.Cut(data, " ")
	length := recordLength(digits)
	if length <= len(digits)+1 || length > len(data) {
		return "", "", 0
	}
	pair, ended := strings.CutSuffix(data[len(digits)+1:length], "\n")
	key, text, paired := strings.Cut(pair, "=")
	if !ended || !paired || key == "" {
		return "", "", 0
	}
	return key, text, length
}

// recordLength answers 0 for digits that may not begin a record.
func recordLength(digits string) int {
	if len(digits) > 4 || strings.HasPrefix(digits, "0") {
		return 0
	}
	length := 0
	for i := range len(digits) {
		if digits[i] < '0' || digits[i] > '9' {
			return 0
		}
		length = length*10 + int(digits[i]-'0')
	}
	return length
}

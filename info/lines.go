package info

import (
	"iter"
	"strconv"
	"strings"

	"shelfmark/api"
	"shelfmark/codec"
)

const (
	lineEnd = "\n"
	stroke  = ":" // behind a line's word
	blank   = " "
)

// The words of lines.
const (
	ofPath = "StorePath"
	ofHash = "NarHash"
	ofSize = "NarSize"
	ofRefs = "References"
	ofSig  = "Sig"
)

// maxText is more than the bytes of any Text: on the average its lines and its refs
// have fewer than 256.
const maxText = 256 * (4 + api.MaxRefs + api.MaxSigs)

// told goes through the lines of i's Text, without their line ends.
func told(i api.Info) iter.Seq[string] {
	return func(yield func(string) bool) {
		ok := yield(ofPath+stroke+blank+i.Path) &&
			yield(ofHash+stroke+blank+sha256+codec.Base32(i.Hash)) &&
			yield(ofSize+stroke+blank+strconv.Itoa(i.Size)) &&
			yield(ofRefs+stroke+short(i.Refs))
		for k := 0; ok && k < len(i.Sigs); k++ {
			ok = yield(ofSig + stroke + blank + i.Sigs[k])
		}
	}
}

// short is of each of refs a blank and what stands behind the directory.
func short(refs []string) string {
	var b strings.Builder
	for _, ref := range refs {
		b.WriteString(blank)
		b.WriteString(strings.TrimPrefix(ref, ahead))
	}
	return b.String()
}

// lines goes through the lines of s, without their line ends; the last one may lack
// it.
func lines(s string) iter.Seq[string] {
	return func(yield func(string) bool) {
		for rest := s; rest != ""; {
			var line string
			line, rest, _ = strings.Cut(rest, lineEnd)
			if !yield(line) {
				return
			}
		}
	}
}

// take puts what a line tells into i; what it does not tell stays away.
func take(i *api.Info, line string) {
	word, rest, _ := strings.Cut(line, stroke)
	value := strings.TrimPrefix(rest, blank)
	// Pieces of the line would not be new memory (R3).
	switch word {
	case ofPath:
		i.Path = strings.Clone(value)
	case ofHash:
		i.Hash, _ = codec.GetBase32(strings.TrimPrefix(value, sha256), hashSize)
	case ofSize:
		i.Size, _ = strconv.Atoi(value)
	case ofRefs:
		for _, ref := range strings.Fields(rest) {
			i.Refs = append(i.Refs, ahead+ref)
		}
	case ofSig:
		i.Sigs = append(i.Sigs, strings.Clone(value))
	}
}

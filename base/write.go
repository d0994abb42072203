package base

import (
	"remembrancer/api"
	"remembrancer/num"
)

// write makes the texts of all frames, the head's first; false: one of them is longer than a frame may be.
func write(at int, cells []api.Cell) ([][]byte, bool) {
	texts := [][]byte{headText(at, len(cells))}
	for _, c := range cells {
		text := cellText(c)
		// Asked here, since of a text that is too long frame.Put would tell just as of no texts.
		if len(text) > api.MaxFrame {
			return nil, false
		}
		texts = append(texts, text)
	}
	return texts, true
}

func headText(at, cells int) []byte {
	return number(number([]byte{mark}, at), cells)
}

func cellText(c api.Cell) []byte {
	text := number(nil, c.Key.Group)
	text = number(text, c.Key.Ns)
	text = number(text, c.Key.Id)
	text = value(text, c)
	text = number(text, len(c.List))
	for _, n := range c.List {
		text = signed(text, n)
	}
	text = number(text, len(c.Dict))
	for _, field := range c.Dict {
		text = number(text, field.F)
		text = signed(text, field.V)
	}
	return text
}

func value(text []byte, c api.Cell) []byte {
	if !c.Has {
		return number(text, without)
	}
	return signed(number(text, with), c.Value)
}

// number and signed give num nothing to stand behind: given text itself, it would copy it anew for each number.
func number[N int | int64](text []byte, n N) []byte {
	return append(text, num.Put(nil, uint64(n))...)
}

func signed(text []byte, n int64) []byte {
	return append(text, num.PutInt(nil, n)...)
}

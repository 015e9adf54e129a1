package impl

import "bytes"

const MaxPage = 3000

const (
	lastPoint = 1114111
	standIn   = 65533
)

func PointOk(x int) bool {
	return x >= 0 && x <= lastPoint && (x < 55296 || x > 57343)
}

func PointPut(x int) []byte {
	if !PointOk(x) {
		x = standIn
	}
	switch {
	case x < 128:
		return []byte{byte(x)}
	case x < 2048:
		return []byte{byte(192 + x/64), tailByte(x)}
	case x < 65536:
		return []byte{byte(224 + x/4096), tailByte(x / 64), tailByte(x)}
	}
	return []byte{byte(240 + x/262144), tailByte(x / 4096), tailByte(x / 64), tailByte(x)}
}

func tailByte(x int) byte {
	return byte(128 + x%64)
}

func PointsPut(list []int) []byte {
	if len(list) > MaxPage {
		return []byte{}
	}
	b := make([]byte, 0, len(list))
	for _, x := range list {
		b = append(b, PointPut(x)...)
	}
	return b
}

func UtfRead(b []byte) []int {
	if len(b) > MaxPage {
		return []int{}
	}
	room := make([]int, len(b))
	return copyOf(room[:readPoints(room, withoutMark(b))])
}

// The mark counts at the very beginning alone, and once: a second one is a point.
func withoutMark(b []byte) []byte {
	if len(b) >= 3 && b[0] == 239 && b[1] == 187 && b[2] == 191 {
		return b[3:]
	}
	return b
}

// readPoints needs room for as many points as b has bytes, and tells how many it read.
func readPoints(room []int, b []byte) int {
	var at, count, point, left int
	var first, low, high byte
begin:
	if at == len(b) {
		return count
	}
	first = b[at]
	at++
	switch {
	case first < 128:
		point = int(first)
		goto put
	case first >= 194 && first <= 223:
		point, left = int(first)-192, 1
	case first >= 224 && first <= 239:
		point, left = int(first)-224, 2
	case first >= 240 && first <= 244:
		point, left = int(first)-240, 3
	default:
		goto broken
	}
	low, high = secondBounds(first)
tail:
	// A byte that does not fit is not taken: it begins anew.
	if at == len(b) || b[at] < low || b[at] > high {
		goto broken
	}
	point = point*64 + int(b[at]) - 128
	at++
	left--
	low, high = 128, 191
	if left > 0 {
		goto tail
	}
	goto put
broken:
	point = standIn
put:
	room[count] = point
	count++
	goto begin
}

// The bounds bar forms that are longer than need be, and those of what is no point.
func secondBounds(first byte) (byte, byte) {
	switch first {
	case 224:
		return 160, 191
	case 237:
		return 128, 159
	case 240:
		return 144, 191
	case 244:
		return 128, 143
	}
	return 128, 191
}

// An answer is as long as what was read, not as the room that was made for it.
func copyOf(list []int) []int {
	out := make([]int, len(list))
	copy(out, list)
	return out
}

func UtfOk(b []byte) bool {
	return len(b) <= MaxPage && bytes.Equal(PointsPut(UtfRead(b)), b)
}

func LinesOf(list []int) []int {
	if len(list) > MaxPage {
		return []int{}
	}
	room := make([]int, 0, len(list))
	for i, x := range list {
		switch {
		case x != 13:
			room = append(room, x)
		case i+1 == len(list) || list[i+1] != 10:
			room = append(room, 10)
		}
	}
	return copyOf(room)
}

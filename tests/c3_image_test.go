package tests

import (
	"math"
	"slices"
	"strconv"
	"testing"

	"loop.example/liftedcode/impl"
)

// shown is an image with its bytes, written out by hand from chapter 3.
type shown struct {
	image impl.Image
	bytes []int
}

func shownImages() []shown {
	return []shown{
		{impl.Image{Code: []int{0}}, []int{108, 99, 1, 0, 0, 0, 0, 0, 0, 0, 58}},
		{impl.Image{Code: []int{255}, Room: 64, Data: []int{255}}, []int{108, 99, 1, 0, 0, 0, 64, 1, 0, 255, 255, 96}},
		{
			impl.Image{Code: []int{48, 5, 0, 24, 0}, Room: 4, Data: []int{1, 2}, Names: []impl.Name{{Text: "main"}}},
			[]int{108, 99, 5, 0, 0, 0, 4, 2, 1, 4, 109, 97, 105, 110, 0, 0, 48, 5, 0, 24, 0, 1, 2, 108},
		},
		{
			impl.Image{Code: []int{1, 1, 1}, Entry: 2, Names: []impl.Name{{Text: "z", At: 0}, {Text: "a9", At: 2}}},
			[]int{108, 99, 3, 0, 2, 0, 0, 0, 2, 1, 122, 0, 0, 2, 97, 57, 2, 0, 1, 1, 1, 168},
		},
	}
}

// codeOf has so many bytes of code, all kinds of bytes among them.
func codeOf(long int) []int {
	code := make([]int, long)
	for k := range code {
		code[k] = (k*83 + 255) % 256
	}
	return code
}

// namesAt has a name for each place, from short to long ones.
func namesAt(places ...int) []impl.Name {
	texts := []string{"a", "z9", "f3", "word", "halt0", "a00000", "zzzzzzz", "main2345", "q", "loop", "f0", "f1999", "last"}
	var list []impl.Name
	for k, at := range places {
		list = append(list, impl.Name{Text: texts[k], At: at})
	}
	return list
}

// goodImages has images with and without names and data, and at all ends of the ranges of chapter 3.
func goodImages() []impl.Image {
	places := []int{0, 1, 2, 3, 255, 256, 257, 1000, 1001, 1500, 1998, 1999}
	list := []impl.Image{
		{Code: []int{2}},
		{Code: []int{2}, Data: []int{}, Names: []impl.Name{}},
		{Code: []int{2}, Room: 64},
		{Code: []int{2}, Room: 1, Data: []int{0}},
		{Code: []int{2}, Room: 1, Data: []int{255}},
		{Code: []int{2}, Room: 2, Data: []int{255}},
		{Code: []int{2}, Names: namesAt(0)},
		{Code: []int{2, 0}},
		{Code: []int{0, 2}},
		{Code: []int{2, 0}, Entry: 1},
		{Code: codeOf(255), Entry: 254},
		{Code: codeOf(256), Entry: 255, Names: namesAt(255)},
		{Code: codeOf(257), Entry: 256, Names: namesAt(0, 256)},
		{Code: codeOf(1999), Entry: 1998},
		{Code: codeOf(2000)},
		{Code: codeOf(2000), Entry: 1999, Room: 64, Data: codeOf(64), Names: namesAt(places...)},
		{Code: codeOf(2000), Entry: 1000, Room: 64, Data: codeOf(63), Names: namesAt(places[:11]...)},
		{Code: codeOf(12), Names: namesAt(0, 1, 2, 3, 4, 5, 6, 7, 8, 9, 10, 11)},
	}
	for _, text := range []string{"a", "z", "a0", "z9", "abcdefgh", "b1234567", "word", "proc", "f0", "f7"} {
		list = append(list, impl.Image{Code: codeOf(8), Names: []impl.Name{{Text: text, At: 7}}})
		list = append(list, impl.Image{Code: codeOf(8), Names: []impl.Name{{Text: "other", At: 0}, {Text: text, At: 7}}})
	}
	for _, s := range shownImages() {
		list = append(list, s.image)
	}
	return list
}

// noNameTexts are no names: empty or too long ones, ones that begin with a digit, and ones with other letters.
var noNameTexts = []string{"", "abcdefghi", "a12345678", "aaaaaaaaaaaaaaaa", "0", "9", "0a", "1main", "A", "Z", "Main", "maiN", "a_", "_a", "a b", " a", "a ", "a-", "-a", "a.b", "a`", "`a", "a{", "{a", "a/", "a:", "/", ":", "a@", "a\x00", "\x00", "\xff", "a\xe9", "é", "aé", "a\u0661", "a\n"}

// badImages has what is no image, each by one part alone.
func badImages() []impl.Image {
	list := []impl.Image{
		{},
		{Code: []int{}},
		{Code: nil, Room: 1, Data: []int{1}},
		{Code: codeOf(2001)},
		{Code: codeOf(2001), Entry: 2000, Names: namesAt(2000)},
		{Code: codeOf(65537)},
		{Code: codeOf(8), Names: namesAt(8)},
		{Code: codeOf(8), Names: namesAt(-1)},
		{Code: codeOf(8), Names: namesAt(0, 8)},
		{Code: codeOf(8), Names: namesAt(-1, 0)},
		{Code: codeOf(8), Names: namesAt(math.MaxInt)},
		{Code: codeOf(8), Names: namesAt(math.MinInt)},
		{Code: codeOf(8), Names: namesAt(0, 0)},
		{Code: codeOf(8), Names: namesAt(1, 0)},
		{Code: codeOf(8), Names: namesAt(0, 7, 7)},
		{Code: codeOf(8), Names: namesAt(0, 7, 6)},
		{Code: codeOf(8), Names: namesAt(3, 1, 2)},
		{Code: codeOf(13), Names: namesAt(0, 1, 2, 3, 4, 5, 6, 7, 8, 9, 10, 11, 12)},
		{Code: codeOf(8), Names: []impl.Name{{Text: "same", At: 1}, {Text: "same", At: 2}}},
		{Code: codeOf(8), Names: []impl.Name{{Text: "same", At: 1}, {Text: "other", At: 2}, {Text: "same", At: 3}}},
		{Code: codeOf(8), Names: []impl.Name{{Text: "a", At: 1}, {Text: "b", At: 2}, {Text: "b", At: 3}}},
	}
	for _, entry := range []int{math.MinInt, -65536, -1, 8, 9, 256, 2000, 65536, math.MaxInt} {
		list = append(list, impl.Image{Code: codeOf(8), Entry: entry})
	}
	for _, room := range []int{math.MinInt, -256, -1, 65, 66, 256, 320, math.MaxInt} {
		list = append(list, impl.Image{Code: codeOf(8), Room: room})
	}
	for _, room := range []int{0, 1, 63, 64} {
		list = append(list, impl.Image{Code: codeOf(8), Room: room, Data: codeOf(room + 1)})
	}
	list = append(list, impl.Image{Code: codeOf(8), Room: 65, Data: codeOf(65)}, impl.Image{Code: codeOf(8), Room: -1, Data: codeOf(1)})
	for _, n := range noBytes {
		list = append(list, impl.Image{Code: []int{n}}, impl.Image{Code: []int{2, n}}, impl.Image{Code: []int{n, 2}})
		list = append(list, impl.Image{Code: []int{2}, Room: 2, Data: []int{n}}, impl.Image{Code: []int{2}, Room: 2, Data: []int{0, n}})
	}
	for _, text := range noNameTexts {
		list = append(list, impl.Image{Code: codeOf(8), Names: []impl.Name{{Text: text, At: 1}}})
		list = append(list, impl.Image{Code: codeOf(8), Names: []impl.Name{{Text: "ok", At: 0}, {Text: text, At: 1}}})
	}
	return list
}

// changedImages has images and others that differ from them in one part alone.
func changedImages() []impl.Image {
	base := func() impl.Image {
		return impl.Image{Code: codeOf(300), Entry: 1, Room: 9, Data: []int{7, 0}, Names: []impl.Name{{Text: "one", At: 1}, {Text: "two", At: 256}}}
	}
	changes := []func(m *impl.Image){
		func(m *impl.Image) {},
		func(m *impl.Image) { m.Code[0] = 3 },
		func(m *impl.Image) { m.Code[299] = 3 },
		func(m *impl.Image) { m.Code = m.Code[:299] },
		func(m *impl.Image) { m.Entry = 0 },
		func(m *impl.Image) { m.Entry = 257 },
		func(m *impl.Image) { m.Room = 10 },
		func(m *impl.Image) { m.Data[1] = 1 },
		func(m *impl.Image) { m.Data = m.Data[:1] },
		func(m *impl.Image) { m.Data = append(m.Data, 0) },
		func(m *impl.Image) { m.Data = nil },
		func(m *impl.Image) { m.Names[0].Text = "ond" },
		func(m *impl.Image) { m.Names[0].Text = "on" },
		func(m *impl.Image) { m.Names[0].At = 0 },
		func(m *impl.Image) { m.Names[1].At = 2 },
		func(m *impl.Image) { m.Names = m.Names[:1] },
		func(m *impl.Image) { m.Names = m.Names[1:] },
		func(m *impl.Image) { m.Names = nil },
	}
	var list []impl.Image
	for _, change := range changes {
		m := base()
		change(&m)
		list = append(list, m)
	}
	return list
}

func someImages() []impl.Image {
	return append(goodImages(), changedImages()...)
}

// alike tells apart from ImageSame whether all parts are equal, nil and empty lists being the same.
func alike(a impl.Image, b impl.Image) bool {
	return slices.Equal(a.Code, b.Code) && a.Entry == b.Entry && a.Room == b.Room && slices.Equal(a.Data, b.Data) && slices.Equal(a.Names, b.Names)
}

func isNoImage(m impl.Image) bool {
	return m.Code == nil && m.Entry == 0 && m.Room == 0 && m.Data == nil && m.Names == nil
}

func copied(m impl.Image) impl.Image {
	return impl.Image{Code: slices.Clone(m.Code), Entry: m.Entry, Room: m.Room, Data: slices.Clone(m.Data), Names: slices.Clone(m.Names)}
}

// withSum has the right last byte behind bytes.
func withSum(list []int) []int {
	sum := 0
	for k, n := range list {
		sum = (sum + (k+1)*n) % 251
	}
	return append(slices.Clone(list), sum)
}

func checkNoImage(t *testing.T, list []int) {
	t.Helper()
	if m, ok := impl.ImageRead(list); ok || !isNoImage(m) {
		t.Errorf("ImageRead of %d bytes, %v .. = %v, %t", len(list), list[:min(len(list), 40)], m, ok)
	}
}

func TestNumbersOfImages(t *testing.T) {
	if impl.MaxRoom != 64 || impl.MaxNames != 12 || impl.MaxName != 8 {
		t.Errorf("limits %d, %d, %d", impl.MaxRoom, impl.MaxNames, impl.MaxName)
	}
}

func TestImageOkOfImages(t *testing.T) {
	for k, m := range someImages() {
		if !impl.ImageOk(m) {
			t.Errorf("image %d is none: %v", k, m)
		}
	}
}

func TestImageOkOfAllBytes(t *testing.T) {
	for n := -300; n <= 600; n++ {
		is := between(n, 0, 255)
		if impl.ImageOk(impl.Image{Code: []int{n}}) != is || impl.ImageOk(impl.Image{Code: []int{0}, Room: 1, Data: []int{n}}) != is {
			t.Errorf("ImageOk with the number %d", n)
		}
	}
}

func TestImageOkOfAllLengths(t *testing.T) {
	for long := 0; long <= 2100; long++ {
		if impl.ImageOk(impl.Image{Code: codeOf(long)}) != between(long, 1, 2000) {
			t.Errorf("ImageOk with %d bytes of code", long)
		}
	}
	for room := -3; room <= 70; room++ {
		for long := 0; long <= 70; long++ {
			want := between(room, 0, 64) && long <= room
			if impl.ImageOk(impl.Image{Code: []int{0}, Room: room, Data: codeOf(long)}) != want {
				t.Errorf("ImageOk with a room of %d and %d bytes of data", room, long)
			}
		}
	}
}

func TestImageOkOfAllPlaces(t *testing.T) {
	for long := 1; long <= 20; long++ {
		for at := -3; at <= 23; at++ {
			is := between(at, 0, long-1)
			if impl.ImageOk(impl.Image{Code: codeOf(long), Entry: at}) != is || impl.ImageOk(impl.Image{Code: codeOf(long), Names: namesAt(at)}) != is {
				t.Errorf("ImageOk of %d bytes with the place %d", long, at)
			}
		}
	}
}

func TestImageOkOfAllLetters(t *testing.T) {
	for b := range 256 {
		letter := string([]byte{byte(b)})
		small, digit := between(b, 'a', 'z'), between(b, '0', '9')
		for text, want := range map[string]bool{letter: small, letter + "a": small, "a" + letter: small || digit, "a" + letter + "0": small || digit, "abcdefg" + letter: small || digit} {
			if impl.ImageOk(impl.Image{Code: []int{0}, Names: []impl.Name{{Text: text}}}) != want {
				t.Errorf("ImageOk with the name %q", text)
			}
		}
	}
}

func TestNoImages(t *testing.T) {
	good := goodImages()
	for k, m := range badImages() {
		if impl.ImageOk(m) {
			t.Errorf("%d is an image: %v", k, m)
		}
		if list := impl.ImageBytes(m); len(list) != 0 {
			t.Errorf("%d has the bytes %v", k, list)
		}
		if impl.ImageSame(m, m) {
			t.Errorf("%d is the same as itself", k)
		}
		for _, other := range good {
			if impl.ImageSame(m, other) || impl.ImageSame(other, m) {
				t.Errorf("%d is the same as an image", k)
			}
		}
		for _, at := range []int{-1, 0, 1, 7, 8, 1999, 2000} {
			if text := impl.NameOf(m, at); text != "" {
				t.Errorf("NameOf of %d at %d = %q", k, at, text)
			}
		}
	}
}

// Promise 12: an image is read as it is written.

func TestPromise12Values(t *testing.T) {
	for _, s := range shownImages() {
		if list := impl.ImageBytes(s.image); !slices.Equal(list, s.bytes) {
			t.Errorf("ImageBytes(%v) = %v, not %v", s.image, list, s.bytes)
		}
		if m, ok := impl.ImageRead(s.bytes); !ok || !alike(m, s.image) {
			t.Errorf("ImageRead(%v) = %v, %t, not %v", s.bytes, m, ok, s.image)
		}
	}
}

// wantBytes tells from chapter 3 what the bytes of an image are, from the last one on.
func wantBytes(m impl.Image) []int {
	list := slices.Concat(m.Code, m.Data)
	for k := len(m.Names) - 1; k >= 0; k-- {
		name := []int{len(m.Names[k].Text)}
		for _, b := range []byte(m.Names[k].Text) {
			name = append(name, int(b))
		}
		list = slices.Concat(name, []int{m.Names[k].At % 256, m.Names[k].At / 256}, list)
	}
	long := len(m.Code)
	head := []int{108, 99, long % 256, long / 256, m.Entry % 256, m.Entry / 256, m.Room, len(m.Data), len(m.Names)}
	return withSum(slices.Concat(head, list))
}

func TestPromise12ReadAsWritten(t *testing.T) {
	for k, m := range someImages() {
		list := impl.ImageBytes(m)
		if !slices.Equal(list, wantBytes(m)) {
			t.Errorf("ImageBytes of image %d = %v", k, list)
		}
		got, ok := impl.ImageRead(list)
		if !ok || !alike(got, m) || !impl.ImageSame(got, m) {
			t.Errorf("image %d is read as %v, %t", k, got, ok)
		}
	}
}

// Promise 13: images are equal just if their bytes are.

func TestPromise13JustIfTheBytesAre(t *testing.T) {
	images := someImages()
	var bytes [][]int
	for _, m := range images {
		bytes = append(bytes, impl.ImageBytes(m))
	}
	for k, a := range images {
		for l, b := range images {
			want := alike(a, b)
			if got := impl.ImageSame(a, b); got != want {
				t.Errorf("ImageSame of images %d and %d = %t", k, l, got)
			}
			if got := slices.Equal(bytes[k], bytes[l]); got != want {
				t.Errorf("images %d and %d have the same bytes: %t", k, l, got)
			}
		}
	}
}

func TestPromise13OneChange(t *testing.T) {
	images := changedImages()
	for k, a := range images {
		for l, b := range images {
			if got := impl.ImageSame(a, b); got != (k == l) {
				t.Errorf("ImageSame with the changes %d and %d = %t", k, l, got)
			}
		}
	}
}

func TestPromise13NilAndEmpty(t *testing.T) {
	a := impl.Image{Code: []int{2}}
	b := impl.Image{Code: []int{2}, Data: []int{}, Names: []impl.Name{}}
	if !impl.ImageSame(a, b) || !impl.ImageSame(b, a) || !slices.Equal(impl.ImageBytes(a), impl.ImageBytes(b)) {
		t.Error("nil and empty lists are not the same")
	}
}

// Promise 14: the last byte is told by all others.

func TestPromise14OtherLastBytes(t *testing.T) {
	for _, m := range someImages() {
		list := impl.ImageBytes(m)
		last := list[len(list)-1]
		others := append([]int{last - 1, last + 1, last + 251, last - 251, last + 256}, noBytes...)
		for n := range 256 {
			others = append(others, n)
		}
		for _, n := range others {
			if n == last {
				continue
			}
			other := slices.Clone(list)
			other[len(list)-1] = n
			checkNoImage(t, other)
		}
	}
}

func TestPromise14AllSums(t *testing.T) {
	// 251 to 255 are bytes, but no sums, though they are the same modulo 251 as 0 to 4.
	seen := map[int]bool{}
	for n := range 251 {
		list := impl.ImageBytes(impl.Image{Code: []int{n}})
		last := list[len(list)-1]
		seen[last] = true
		if last+251 <= 255 {
			list[len(list)-1] = last + 251
			checkNoImage(t, list)
		}
	}
	if len(seen) != 251 || !seen[0] || !seen[250] {
		t.Errorf("%d sums", len(seen))
	}
}

// Promise 15: what is read is written as it was.

// wantReadImage tells from chapter 3 which image bytes are, by the places at which its parts stand.
func wantReadImage(list []int) (impl.Image, bool) {
	for _, n := range list {
		if !between(n, 0, 255) {
			return impl.Image{}, false
		}
	}
	if len(list) < 11 || list[0] != 108 || list[1] != 99 || !slices.Equal(withSum(list[:len(list)-1]), list) {
		return impl.Image{}, false
	}
	long, data := list[2]+256*list[3], list[7]
	m := impl.Image{Entry: list[4] + 256*list[5], Room: list[6]}
	at := 9
	for range list[8] {
		if at >= len(list) || at+list[at]+2 >= len(list) {
			return impl.Image{}, false
		}
		end := at + 1 + list[at]
		text := ""
		for _, n := range list[at+1 : end] {
			text += string([]byte{byte(n)})
		}
		m.Names = append(m.Names, impl.Name{Text: text, At: list[end] + 256*list[end+1]})
		at = end + 2
	}
	if at+long+data+1 != len(list) {
		return impl.Image{}, false
	}
	m.Code, m.Data = list[at:at+long], list[at+long:at+long+data]
	return m, wantImage(m)
}

// wantImage tells from chapter 3 whether m, whose code and data are bytes, is an image.
func wantImage(m impl.Image) bool {
	if !between(len(m.Code), 1, 2000) || !between(m.Entry, 0, len(m.Code)-1) || !between(m.Room, 0, 64) || len(m.Data) > m.Room || len(m.Names) > 12 {
		return false
	}
	texts := map[string]bool{}
	for k, n := range m.Names {
		texts[n.Text] = true
		if !wantName(n.Text) || n.At < 0 || n.At >= len(m.Code) || k > 0 && m.Names[k-1].At >= n.At {
			return false
		}
	}
	return len(texts) == len(m.Names)
}

func wantName(text string) bool {
	for k, r := range text {
		if !between(int(r), 'a', 'z') && (k == 0 || !between(int(r), '0', '9')) {
			return false
		}
	}
	return between(len(text), 1, 8)
}

// checkReadImage returns whether the bytes are an image.
func checkReadImage(t *testing.T, list []int) bool {
	t.Helper()
	want, wantOk := wantReadImage(list)
	if !wantOk {
		checkNoImage(t, list)
		return false
	}
	m, ok := impl.ImageRead(list)
	if !ok || !alike(m, want) {
		t.Errorf("ImageRead of %v .. = %v, %t, not %v", list[:min(len(list), 40)], m, ok, want)
		return false
	}
	if !impl.ImageOk(m) || !slices.Equal(impl.ImageBytes(m), list) {
		t.Errorf("ImageBytes of what was read of %v .. are others", list[:min(len(list), 40)])
	}
	return true
}

// shortImages are images of few bytes, so that each byte may be turned into all others.
func shortImages() []impl.Image {
	return []impl.Image{
		{Code: []int{0}},
		{Code: []int{48, 5, 0, 24, 0}, Room: 4, Data: []int{1, 2}, Names: []impl.Name{{Text: "main"}}},
		{Code: []int{1, 2, 0, 1}, Entry: 3, Room: 64, Data: []int{9}, Names: []impl.Name{{Text: "ab", At: 1}, {Text: "bb", At: 2}, {Text: "a", At: 3}}},
	}
}

func TestPromise15OtherBytes(t *testing.T) {
	taken := 0
	for _, m := range shortImages() {
		list := impl.ImageBytes(m)
		body := list[:len(list)-1]
		for k := range body {
			for n := range 256 {
				other := slices.Clone(body)
				other[k] = n
				if checkReadImage(t, withSum(other)) {
					taken++
				}
			}
		}
	}
	if taken < 1000 {
		t.Errorf("only %d images were read", taken)
	}
}

func TestPromise15OtherBytesOfLongOnes(t *testing.T) {
	for _, m := range goodImages() {
		list := impl.ImageBytes(m)
		body := list[:len(list)-1]
		for k := 0; k < min(len(body), 140); k++ {
			for _, n := range []int{0, 1, 8, 9, 12, 13, 64, 65, 207, 208, 255, body[k] ^ 1, (body[k] + 1) % 256, (body[k] + 255) % 256} {
				other := slices.Clone(body)
				other[k] = n
				checkReadImage(t, withSum(other))
			}
		}
	}
}

func TestPromise15NumbersThatAreNoBytes(t *testing.T) {
	for _, m := range append(shortImages(), impl.Image{Code: codeOf(300), Room: 3, Data: codeOf(3)}) {
		list := impl.ImageBytes(m)
		for k := range list {
			for _, n := range append([]int{list[k] + 256, list[k] - 256, list[k] + 65536, list[k] | 1<<40}, noBytes...) {
				other := slices.Clone(list)
				other[k] = n
				checkNoImage(t, other)
			}
			// A byte more here and 256 less behind it would be the same number, if they were read as bytes.
			if k > 0 && list[k] > 0 {
				other := slices.Clone(list)
				other[k]--
				other[k-1] += 256
				checkNoImage(t, other)
			}
		}
	}
}

func TestPromise15ListsThatEndWithin(t *testing.T) {
	for _, m := range goodImages() {
		list := impl.ImageBytes(m)
		for long := range list {
			checkNoImage(t, list[:long:long])
			// The bytes that are missing stand behind the end of the slice, where they must not be read.
			checkNoImage(t, list[:long])
			if long < len(list)-1 {
				checkNoImage(t, withSum(list[:long]))
			}
		}
	}
	checkNoImage(t, nil)
	checkNoImage(t, []int{})
}

func TestPromise15ListsThatGoOn(t *testing.T) {
	for _, m := range goodImages() {
		list := impl.ImageBytes(m)
		body := list[:len(list)-1]
		for _, more := range [][]int{{0}, {1}, {255}, {0, 0}, list, codeOf(3000)} {
			checkNoImage(t, slices.Concat(list, more))
			checkNoImage(t, withSum(slices.Concat(list, more)))
			checkNoImage(t, withSum(slices.Concat(body, more)))
			checkNoImage(t, slices.Concat(more, list))
		}
	}
}

func TestPromise15NoImages(t *testing.T) {
	for _, m := range badImages() {
		checkNoImage(t, wantBytes(m))
	}
}

func TestPromise15ListsOfNoOrder(t *testing.T) {
	state := 12345
	next := func(below int) int {
		state = (state*1103515245 + 12345) % (1 << 31)
		return (state >> 8) % below
	}
	taken := 0
	for range 40000 {
		list := []int{108, 99, 1 + next(4), 0, next(4), 0, next(4), next(3), next(3)}
		for range list[8] {
			list = append(list, 1, 'a'+next(3), next(4), 0)
		}
		for range list[2] + list[7] + next(8)/7 {
			list = append(list, next(256))
		}
		if checkReadImage(t, withSum(list)) {
			taken++
		}
	}
	if taken < 1000 {
		t.Errorf("only %d images were read", taken)
	}
}

// Promise 16: a place with a name has this.

func TestPromise16Values(t *testing.T) {
	m := impl.Image{Code: codeOf(2000), Entry: 5, Names: []impl.Name{{Text: "first", At: 0}, {Text: "f7", At: 3}, {Text: "x", At: 10}, {Text: "last2345", At: 1999}}}
	want := map[int]string{0: "first", 1: "f1", 3: "f7", 5: "f5", 7: "f7", 9: "f9", 10: "x", 11: "f11", 100: "f100", 1998: "f1998", 1999: "last2345", 2000: "", -1: "", -3: "", math.MinInt: "", math.MaxInt: ""}
	for at, text := range want {
		if got := impl.NameOf(m, at); got != text {
			t.Errorf("NameOf at %d = %q, not %q", at, got, text)
		}
	}
}

func TestPromise16AllPlaces(t *testing.T) {
	for k, m := range someImages() {
		want := map[int]string{}
		for at := range m.Code {
			want[at] = "f" + strconv.Itoa(at)
		}
		for _, n := range m.Names {
			want[n.At] = n.Text
		}
		for at := -3; at <= len(m.Code)+3; at++ {
			if got := impl.NameOf(m, at); got != want[at] {
				t.Errorf("NameOf of image %d at %d = %q, not %q", k, at, got, want[at])
			}
		}
	}
}

func TestPromise16NoPlaces(t *testing.T) {
	for k, m := range goodImages() {
		for _, at := range []int{math.MinInt, -65536, -1, len(m.Code), len(m.Code) + 1, 2000, 65536, math.MaxInt} {
			if got := impl.NameOf(m, at); got != "" {
				t.Errorf("NameOf of image %d at %d = %q", k, at, got)
			}
		}
	}
}

// What is returned is new, and what is told stays.

// spoil changes all numbers of a list, also those behind its end.
func spoil(list []int) {
	for k := range list[:cap(list)] {
		list[:cap(list)][k] = 77777
	}
}

func spoilNames(list []impl.Name) {
	for k := range list[:cap(list)] {
		list[:cap(list)][k] = impl.Name{Text: "spoilt", At: 77777}
	}
}

func TestImageBytesSharesNothing(t *testing.T) {
	for k, m := range someImages() {
		kept := copied(m)
		first, second := impl.ImageBytes(m), impl.ImageBytes(m)
		want := slices.Clone(second)
		spoil(first)
		if !alike(m, kept) || !slices.Equal(second, want) || !slices.Equal(impl.ImageBytes(m), want) {
			t.Errorf("ImageBytes of image %d shares memory", k)
		}
	}
}

func TestImageReadSharesNothing(t *testing.T) {
	for k, m := range someImages() {
		list := wantBytes(m)
		kept := slices.Clone(list)
		first, _ := impl.ImageRead(list)
		second, _ := impl.ImageRead(list)
		spoil(first.Code)
		if !slices.Equal(first.Data, m.Data) || !slices.Equal(first.Names, m.Names) {
			t.Errorf("image %d is read with parts that share memory", k)
		}
		spoil(first.Data)
		spoilNames(first.Names)
		if !slices.Equal(list, kept) || !alike(second, m) {
			t.Errorf("what image %d is read as shares memory", k)
		}
		if third, ok := impl.ImageRead(list); !ok || !alike(third, m) {
			t.Errorf("image %d is read as %v after an earlier result was changed", k, third)
		}
		spoil(list)
		if !alike(second, m) {
			t.Errorf("what image %d is read as shares memory with the bytes", k)
		}
	}
}

// guarded has the same parts as an image, with other numbers behind their ends.
func guarded(m impl.Image) impl.Image {
	g := copied(m)
	g.Code = append(g.Code, 11111)[:len(m.Code)]
	g.Data = append(g.Data, 22222)[:len(m.Data)]
	g.Names = append(g.Names, impl.Name{Text: "guard", At: 33333})[:len(m.Names)]
	return g
}

func isGuarded(g impl.Image) bool {
	return g.Code[:len(g.Code)+1][len(g.Code)] == 11111 && g.Data[:len(g.Data)+1][len(g.Data)] == 22222 && g.Names[:len(g.Names)+1][len(g.Names)].At == 33333
}

func TestImagesAreNotChanged(t *testing.T) {
	for k, m := range slices.Concat(someImages(), badImages()) {
		g := guarded(m)
		for range 2 {
			ok, bytes := impl.ImageOk(g), impl.ImageBytes(g)
			if impl.ImageSame(g, m) != ok || (len(bytes) > 0) != ok || (impl.NameOf(g, 0) != "") != ok {
				t.Errorf("image %d is told in different ways", k)
			}
		}
		if !alike(g, m) || !isGuarded(g) {
			t.Errorf("image %d was changed", k)
		}
	}
}

func TestListsAreNotChanged(t *testing.T) {
	for k, m := range someImages() {
		list := wantBytes(m)
		long := len(list)
		list = append(list, 44444)
		kept := slices.Clone(list)
		impl.ImageRead(list[:long])
		impl.ImageRead(list)
		impl.ImageRead(list[:long-1])
		if !slices.Equal(list, kept) {
			t.Errorf("the bytes of image %d were changed", k)
		}
	}
}

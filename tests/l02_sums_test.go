package tests

import (
	"encoding/binary"
	"hash/crc32"
	"strings"
	"testing"

	"loop.example/g00237/impl"
)

// sumTurner is the number of the document, which an odd sum is turned by.
const sumTurner = 3558460437

// plainSum goes bit by bit, as the document says it.
func plainSum(sum uint32, text string) uint32 {
	for i := 0; i < len(text); i++ {
		sum ^= uint32(text[i])
		for range 8 {
			odd := sum%2 == 1
			sum /= 2
			if odd {
				sum ^= sumTurner
			}
		}
	}
	return sum
}

func someSums() []uint32 {
	list := []uint32{0, 1, 2, 15, 16, 127, 128, 255, 256, 0x01020304, 0x7fffffff, 0x80000000, sumTurner, 0xfffffffe, 0xffffffff}
	for sum := uint32(7); sum < 1<<31; sum = sum*2 + sum/3 {
		list = append(list, sum, ^sum)
	}
	return list
}

func sealed(t *testing.T, text string) string {
	t.Helper()
	s, ok := impl.Sealed(text)
	if !ok {
		t.Fatalf("Sealed of %d bytes is refused", len(text))
	}
	return s
}

func refusedUnsealed(t *testing.T, text string) {
	t.Helper()
	if got, ok := impl.Unsealed(text); ok || got != "" {
		t.Errorf("Unsealed of %d bytes, %.20q.. = %.20q, %v; want none", len(text), text, got, ok)
	}
}

func TestSumsByHand(t *testing.T) {
	cases := []struct {
		sum  uint32
		text string
		want uint32
	}{
		{0, "\x00", 0}, {0, "\x01", 735957071}, {0, "\x80", 3558460437}, {0, "\xff", 2170173475},
		{4294967295, "\x00", 2175125468}, {4294967295, "\x01", 2859997075},
		{4294967295, "\x80", 1438387145}, {4294967295, "\xff", 16777215},
		// The byte goes into the lowest bits: the sum 128 with the byte 0 is the sum 0 with the byte 128.
		{128, "\x00", 3558460437}, {256, "\x00", 1}, {0x80000000, "\x00", 0x00800000},
		{4294967295, "123456789", 2026809993}, {4294967295, "abc", 2815232641},
	}
	for _, c := range cases {
		if got := impl.SumMore(c.sum, c.text); got != c.want {
			t.Errorf("SumMore(%d, %q) = %d; want %d", c.sum, c.text, got, c.want)
		}
		if got := impl.SumOf(c.text); c.sum == 4294967295 && got != c.want {
			t.Errorf("SumOf(%q) = %d; want %d", c.text, got, c.want)
		}
	}
	if got := impl.SumOf(""); got != 4294967295 {
		t.Errorf("SumOf of the empty text = %d", got)
	}
}

func TestSumOfNothingMore(t *testing.T) {
	for _, sum := range someSums() {
		if got := impl.SumMore(sum, ""); got != sum {
			t.Errorf("SumMore(%d, nothing) = %d", sum, got)
		}
	}
}

func TestSumMoreOfEveryByte(t *testing.T) {
	for _, sum := range someSums() {
		for b := range 256 {
			text := string([]byte{byte(b)})
			if got, want := impl.SumMore(sum, text), plainSum(sum, text); got != want {
				t.Fatalf("SumMore(%d, %q) = %d; want %d", sum, text, got, want)
			}
		}
	}
}

func TestSumsOfTexts(t *testing.T) {
	table := crc32.MakeTable(sumTurner)
	for _, text := range append(texts(), strings.Repeat("long ", 2*impl.MaxText)) {
		if got, want := impl.SumOf(text), plainSum(4294967295, text); got != want {
			t.Errorf("SumOf of %d bytes = %d; want %d", len(text), got, want)
		}
		if got, want := impl.SumOf(text), ^crc32.Checksum([]byte(text), table); got != want {
			t.Errorf("SumOf of %d bytes = %d; want the library's %d", len(text), got, want)
		}
		for _, sum := range someSums() {
			if got, want := impl.SumMore(sum, text), ^crc32.Update(^sum, table, []byte(text)); got != want {
				t.Errorf("SumMore of %d and %d bytes = %d; want %d", sum, len(text), got, want)
			}
		}
	}
}

func TestSumMoreGoesOn(t *testing.T) {
	for _, text := range texts() {
		step := max(1, len(text)/300)
		whole := impl.SumOf(text)
		for cut := 0; cut <= len(text); cut += step {
			if got := impl.SumMore(impl.SumOf(text[:cut]), text[cut:]); got != whole {
				t.Errorf("%d bytes cut at %d = %d; want %d", len(text), cut, got, whole)
			}
		}
		if got := impl.SumMore(impl.SumOf(text), ""); got != whole {
			t.Errorf("%d bytes cut at the end = %d; want %d", len(text), got, whole)
		}
	}
	sum := impl.SumOf("")
	for _, part := range []string{"many", "", " ", "parts", "\x00", "\xff"} {
		sum = impl.SumMore(sum, part)
	}
	if want := impl.SumOf("many parts\x00\xff"); sum != want {
		t.Errorf("many parts = %d; want %d", sum, want)
	}
}

func TestSealedForm(t *testing.T) {
	if s := sealed(t, ""); s != "\xff\xff\xff\xff" {
		t.Errorf("Sealed of the empty text = %q", s)
	}
	// SumOf("\xff") is 16777215, which has no bit in its highest byte.
	if s := sealed(t, "\xff"); s != "\xff\x00\xff\xff\xff" {
		t.Errorf("Sealed of the byte 255 = %q", s)
	}
	if s := sealed(t, "123456789"); s != "123456789\x78\xce\xaa\x89" {
		t.Errorf("Sealed of the nine figures = %q", s)
	}
	for _, text := range texts() {
		want := text + string(binary.BigEndian.AppendUint32(nil, plainSum(4294967295, text)))
		if s := sealed(t, text); s != want {
			t.Errorf("Sealed of %d bytes ends with %q; want %q", len(text), s[len(s)-4:], want[len(text):])
		}
	}
}

func TestSealedIsUnsealed(t *testing.T) {
	for _, text := range texts() {
		if got, ok := impl.Unsealed(sealed(t, text)); !ok || got != text {
			t.Errorf("Unsealed of %d bytes = %.20q, %v", len(text), got, ok)
		}
		if len(text)+4 <= impl.MaxText {
			twice := sealed(t, sealed(t, text))
			if got, ok := impl.Unsealed(twice); !ok || got != sealed(t, text) {
				t.Errorf("Unsealed of %d bytes, twice sealed = %.20q, %v", len(text), got, ok)
			}
		}
	}
}

func TestOneByteTurned(t *testing.T) {
	hundreds := strings.Repeat("some hundred bytes\x00\xff ", 15)
	for _, text := range []string{"", "\x00", "a", "\xff", "abc", "\xff\xff\xff\xff", hundreds} {
		bytes := []byte(sealed(t, text))
		for at, was := range bytes {
			for turn := 1; turn < 256; turn++ {
				bytes[at] = was ^ byte(turn)
				refusedUnsealed(t, string(bytes))
			}
			bytes[at] = was
		}
	}
}

func TestOneByteTurnedInTheLongest(t *testing.T) {
	text := texts()[len(texts())-1]
	if len(text) != impl.MaxText {
		t.Fatal("the longest text is not of MaxText bytes")
	}
	bytes := []byte(sealed(t, text))
	places := []int{0, 1, 2, 3, len(bytes) - 6, len(bytes) - 5, len(bytes) - 4, len(bytes) - 3, len(bytes) - 2, len(bytes) - 1}
	for at := 4; at < len(bytes); at += 97 {
		places = append(places, at)
	}
	for _, at := range places {
		was := bytes[at]
		for _, turn := range []byte{1, 2, 16, 128, 255} {
			bytes[at] = was ^ turn
			refusedUnsealed(t, string(bytes))
		}
		bytes[at] = was
	}
}

func TestSealedRefuses(t *testing.T) {
	for _, size := range []int{impl.MaxText + 1, impl.MaxText + 2, impl.MaxText + 4, 3 * impl.MaxText} {
		if got, ok := impl.Sealed(strings.Repeat("x", size)); ok || got != "" {
			t.Errorf("Sealed of %d bytes = %.20q, %v; want none", size, got, ok)
		}
	}
}

func TestUnsealedRefusesLengths(t *testing.T) {
	for _, text := range []string{"", "\xff", "\xff\xff", "\xff\xff\xff", "\x00\x00\x00\x00", "abc", "abcd"} {
		refusedUnsealed(t, text)
	}
	// Rightly summed, but of a text that is too long to be sealed.
	for _, size := range []int{impl.MaxText + 1, impl.MaxText + 2, 2 * impl.MaxText} {
		text := strings.Repeat("x", size)
		refusedUnsealed(t, text+string(binary.BigEndian.AppendUint32(nil, impl.SumOf(text))))
	}
	for _, text := range []string{"", "a", "abc", strings.Repeat("long", 50)} {
		s := sealed(t, text)
		refusedUnsealed(t, s[:len(s)-1])
		refusedUnsealed(t, s+"\x00")
		refusedUnsealed(t, "\x00"+s)
		refusedUnsealed(t, text)
	}
}

func TestUnsealedRefusesOtherOrders(t *testing.T) {
	for _, text := range []string{"\x00", "a", "abc", "123456789", strings.Repeat("long", 50)} {
		s := sealed(t, text)
		seal := s[len(text):]
		for place := range 256 {
			a, b, c, d := place/64, place/16%4, place/4%4, place%4
			other := string([]byte{seal[a], seal[b], seal[c], seal[d]})
			if other != seal {
				refusedUnsealed(t, text+other)
			}
		}
		refusedUnsealed(t, seal+text)
	}
}

func TestSumsAreNewMemory(t *testing.T) {
	for _, text := range []string{"", "hello"} {
		s := sealed(t, text)
		got, _ := impl.Unsealed(s)
		if sharesMemory(text, s) || sharesMemory(s, got) {
			t.Error("an answer shares memory with its argument")
		}
	}
}

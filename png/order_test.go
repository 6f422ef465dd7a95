package png_test

import (
	"hash/adler32"
	"hash/crc32"
	"strconv"
	"strings"
	"testing"
)

// pixel is a picture that most files here are of, and sight its frame.
var (
	pixel = picture{1, 1, "abcd"}
	sight = frame("\x00abcd")
)

// laid is a file of chunks in this order: H the head, D the next part of the frame, E the
// end, s one that isn't counted, X one that there may not be.
func (d *draw) laid(order string) string {
	var text strings.Builder
	text.WriteString(signature)
	rest, left := sight, strings.Count(order, "D")
	for _, letter := range order {
		switch letter {
		case 'H':
			text.WriteString(head(1, 1))
		case 'D':
			n := len(rest)
			if left--; left > 0 {
				n = d.next(n + 1)
			}
			text.WriteString(chunk("IDAT", rest[:n]))
			rest = rest[n:]
		case 'E':
			text.WriteString(chunk("IEND", ""))
		case 's':
			text.WriteString(chunk([]string{"tEXt", "iDAT", "iEND", "iHDR", "aaaa", "zZZZ"}[d.next(6)], d.text(d.next(9))))
		case 'X':
			text.WriteString(chunk([]string{"PLTE", "Idat", "IDAt", "IENd", "IHDr", "AAAA", "ZZZZ"}[d.next(7)], d.text(d.next(9))))
		}
	}
	return text.String()
}

func TestDecodeOfAllOrders(t *testing.T) {
	d := &draw{13}
	files := 0
	orders := []string{""}
	for range 7 {
		var longer []string
		for _, order := range orders {
			should := rightOrder.MatchString(order)
			text := d.laid(order)
			same(t, "whether "+order+" is a file", agrees(t, order, text), should)
			if should {
				files++
			}
			for _, letter := range "HDEsX" {
				longer = append(longer, order+string(letter))
			}
		}
		orders = longer
	}
	// Of each length n from 3 to 6 as many as there are rows of D behind s: 1, 3, 6, 10.
	same(t, "how many were files", files, 20)
}

func TestDecodeOfManyChunks(t *testing.T) {
	d := &draw{14}
	for range 200 {
		parts := strings.Repeat("D", 1+d.next(40))
		order := "H" + strings.Repeat("s", d.next(9)) + parts + strings.Repeat("s", d.next(9)) + "E"
		reads(t, order, d.laid(order), pixel)
		refuses(t, "a part of its own", d.laid(strings.Replace(order, "D", "Ds", 1)+"DE"))
		at := 1 + d.next(len(order)-1)
		agrees(t, "a chunk amid", d.laid(order[:at]+string("HDEsX"[d.next(5)])+order[at:]))
	}
	reads(t, "very many", d.laid("H"+strings.Repeat("s", 20000)+strings.Repeat("D", 20000)+strings.Repeat("s", 20000)+"E"), pixel)
}

func TestDecodeOfEmptyParts(t *testing.T) {
	for _, parts := range [][]string{{"", sight}, {sight, ""}, {"", "", sight[:3], "", sight[3:], "", ""}} {
		text := signature + head(1, 1)
		for _, data := range parts {
			text += chunk("IDAT", data)
		}
		reads(t, "empty parts", text+chunk("IEND", ""), pixel)
	}
	refuses(t, "nothing but an empty part", framed(1, 1, ""))
}

// Without a head there are no lines that could be too many or too few.
func TestDecodeWithoutAHead(t *testing.T) {
	for _, data := range []string{frame(""), sight, ""} {
		for _, ahead := range []string{"", chunk("tEXt", "")} {
			refuses(t, "no head", signature+ahead+chunk("IDAT", data)+chunk("IEND", ""))
			refuses(t, "no head, nor an end", signature+ahead+chunk("IDAT", data))
			refuses(t, "the head behind the data", signature+ahead+chunk("IDAT", data)+head(1, 1)+chunk("IEND", ""))
			refuses(t, "the head at the end", signature+ahead+chunk("IDAT", data)+chunk("IEND", "")+head(1, 1))
		}
	}
	refuses(t, "an end alone", signature+chunk("IEND", ""))
}

// A type is four letters, of which only the first one tells whether the chunk counts.
func TestDecodeOfAllTypes(t *testing.T) {
	for at := range 4 {
		for x := range 256 {
			kind := []byte("tExt")
			kind[at] = byte(x)
			other := chunk(string(kind), "data")
			letter := x >= 'a' && x <= 'z' || at > 0 && x >= 'A' && x <= 'Z'
			for _, text := range []string{
				signature + head(1, 1) + other + chunk("IDAT", sight) + chunk("IEND", ""),
				signature + head(1, 1) + chunk("IDAT", sight) + other + chunk("IEND", ""),
			} {
				same(t, "whether "+strconv.Quote(string(kind))+" may be there", agrees(t, "a type", text), letter)
			}
			for _, name := range []string{"IHDR", "IDAT", "IEND"} {
				b := []byte(name)
				b[at] = byte(x)
				text := strings.Replace(framed(1, 1, sight), name, string(b), 1)
				agrees(t, "a type with another sum", text)
				agrees(t, "a type with its sum", resealed(text))
			}
		}
	}
}

// resealed is a file with the sums that its chunks should have.
func resealed(text string) string {
	b := []byte(text)
	for at := len(signature); at+12 <= len(b); {
		end := at + 8 + int(b[at])<<24 + int(b[at+1])<<16 + int(b[at+2])<<8 + int(b[at+3])
		if end > len(b)-4 {
			break
		}
		copy(b[end:], sum(string(b[at+4:end])))
		at = end + 4
	}
	return string(b)
}

// some is a file of all that there may be.
func some() string {
	return signature + head(1, 1) + chunk("tEXt", "a\x00text") + chunk("aaaa", "") +
		chunk("IDAT", sight[:5]) + chunk("IDAT", "") + chunk("IDAT", sight[5:]) +
		chunk("zzzz", "") + chunk("tIME", "\x07\xd0\x01\x01\x00\x00\x00") + chunk("IEND", "")
}

func TestDecodeOfEachBit(t *testing.T) {
	all := some()
	reads(t, "the file", all, pixel)
	for at := range len(all) {
		for bit := range 8 {
			b := []byte(all)
			b[at] ^= 1 << bit
			refuses(t, "a spoiled bit", string(b))
		}
	}
}

func TestDecodeOfPartsOfAFile(t *testing.T) {
	all := some()
	for n := range len(all) {
		refuses(t, "a beginning", all[:n])
		refuses(t, "an end", all[n+1:])
		refuses(t, "a byte fewer", all[:n]+all[n+1:])
		refuses(t, "a byte twice", all[:n+1]+all[n:])
		refuses(t, "a byte amid", all[:n]+"\x00"+all[n:])
	}
	refuses(t, "nothing", "")
}

func TestDecodeOfAnythingBehind(t *testing.T) {
	for _, all := range []string{some(), file(1, 1, "\x00abcd")} {
		for _, behind := range []string{
			"\x00", "\n", "\xff", strings.Repeat("\x00", 11), strings.Repeat("\x00", 12), strings.Repeat("\x00", 99), chunk("tEXt", ""), chunk("IEND", ""),
			chunk("IDAT", ""), chunk("IEND", "")[:11], head(1, 1), all, signature,
		} {
			refuses(t, "anything behind", all+behind)
			refuses(t, "anything ahead", behind+all)
		}
	}
}

func TestDecodeOfOtherSignatures(t *testing.T) {
	rest := strings.TrimPrefix(some(), signature)
	for _, other := range []string{
		"", "\x89PNG", "\x89PNG\r\n\x1a", "\x89PNG\n\x1a\n", "\x89PNG\r\n\x1a\r\n", "\x09PNG\r\n\x1a\n", "\x89png\r\n\x1a\n", "\x8aMNG\r\n\x1a\n", signature + signature,
	} {
		refuses(t, "another signature", other+rest)
		refuses(t, "another signature alone", other)
	}
	refuses(t, "the signature alone", signature)
}

// headed is a file whose first chunk has these data.
func headed(data string) string {
	return signature + chunk("IHDR", data) + chunk("IDAT", sight) + chunk("IEND", "")
}

func TestDecodeOfOtherHeads(t *testing.T) {
	good := number(1) + number(1) + "\x08\x06\x00\x00\x00"
	reads(t, "the head", headed(good), pixel)
	for at := range 13 {
		for x := range 256 {
			b := []byte(good)
			b[at] = byte(x)
			same(t, "whether it is a file", agrees(t, "a head", headed(string(b))), string(b) == good)
		}
	}
	for n := range 13 {
		refuses(t, "a shorter head", headed(good[:n]))
		refuses(t, "a head without its beginning", headed(good[n+1:]))
	}
	refuses(t, "a longer head", headed(good+"\x00"))
	refuses(t, "a head twice as long", headed(good+good))
}

func TestDecodeOfAnEndWithData(t *testing.T) {
	for _, data := range []string{"\x00", "data", sight, strings.Repeat("\x00", 99)} {
		refuses(t, "an end with data", signature+head(1, 1)+chunk("IDAT", sight)+chunk("IEND", data))
		refuses(t, "an end with data, and one without", signature+head(1, 1)+chunk("IDAT", sight)+chunk("IEND", data)+chunk("IEND", ""))
	}
}

// Lengths that say another number of bytes than there are, up to the greatest that four bytes
// hold, in each chunk.
func TestDecodeOfLengthsThatLie(t *testing.T) {
	for _, kind := range []string{"IHDR", "tEXt", "aaaa", "IDAT", "zzzz", "IEND"} {
		at := strings.Index(some(), kind) - 4
		for _, n := range []uint32{0, 1, 4, 12, 13, 14, 255, 256, 13 << 8, 13 << 24, 1<<31 - 1, 1 << 31, 1<<31 + 13, 1<<32 - 12, 1<<32 - 8, 1<<32 - 1} {
			text := some()[:at] + number(n) + some()[at+4:]
			same(t, "whether it is a file", agrees(t, "a length", text), text == some())
			agrees(t, "a length, with sums", resealed(text))
		}
	}
}

// Sums of something else, or in another order, are none.
func TestDecodeOfOtherSums(t *testing.T) {
	for _, c := range []string{head(1, 1), chunk("tEXt", "a\x00text"), chunk("aaaa", ""), chunk("IDAT", sight[:5]), chunk("IDAT", ""), chunk("zzzz", ""), chunk("IEND", "")} {
		n := len(c) - 4
		right := c[n:]
		for what, other := range map[string]string{
			"of the data alone": sum(c[8:n]), "of the type alone": sum(c[4:8]), "of the length too": sum(c[:n]),
			"the lowest byte first": string([]byte{right[3], right[2], right[1], right[0]}), "with all bits turned round": number(^crc32.ChecksumIEEE([]byte(c[4:n]))),
			"an Adler": number(adler32.Checksum([]byte(c[4:n]))), "no sum": number(0), "by another polynomial": number(crc32.Checksum([]byte(c[4:n]), crc32.MakeTable(crc32.Castagnoli))),
		} {
			text := strings.Replace(some(), c, c[:n]+other, 1)
			same(t, "whether it is a file with a sum "+what, agrees(t, "a sum "+what, text), other == right)
		}
	}
}

// spoiled is a text with something done to it at some place, or left as it is.
func (d *draw) spoiled(text string) string {
	at, n := d.next(len(text)), 1+d.next(9)
	rest := text[min(len(text), at+n):]
	switch d.next(6) {
	case 0:
		return text[:at] + rest
	case 1:
		return text[:at] + d.text(n) + text[at:]
	case 2:
		return text[:at] + d.text(n) + rest
	case 3:
		return text[:at] + text[d.next(len(text)):]
	case 4:
		return text[:at] + string([]byte{byte(d.next(256))}) + text[at+1:]
	}
	return text
}

func TestDecodeAgainstThePlainWay(t *testing.T) {
	d := &draw{15}
	files := 0
	for range 6000 {
		p := d.picture(1+d.next(4), 1+d.next(4))
		lines := plainLines(p, d.next(5), d.next(5), d.next(5))
		if d.next(3) == 0 {
			lines = d.spoiled(lines)
		}
		text := file(p.w, p.h, lines)
		if d.next(2) == 0 {
			text = d.spoiled(text)
		}
		if d.next(2) == 0 && len(text) > len(signature) {
			text = resealed(text)
		}
		if agrees(t, "a drawn text", text) {
			files++
		}
	}
	if files < 1000 || files > 5000 {
		t.Errorf("%d drawn texts are files", files)
	}
}

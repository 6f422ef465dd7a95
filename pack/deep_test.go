package pack_test

import (
	"slices"
	"testing"

	"scumble/api"
	"scumble/hist"
	"scumble/pack"
	"scumble/tree"
)

// chain is a document with so many groups within one another.
func chain(n int) tree.Doc {
	d := tree.Doc{W: 1, H: 1, Next: n + 1}
	for id := 1; id <= n; id++ {
		d.Kids = []tree.Layer{plainGroup(id, d.Kids...)}
	}
	return d
}

// states are those in which a document stands at each place.
func states(d tree.Doc) []hist.State {
	none := tree.Doc{W: 1, H: 1, Next: 1}
	return []hist.State{
		{Doc: d}, {Doc: d, Past: []tree.Doc{none}, Future: []tree.Doc{none}}, {Doc: none, Past: []tree.Doc{d}}, {Doc: none, Future: []tree.Doc{d}},
		{Doc: none, Past: []tree.Doc{none, d, none}}, {Doc: none, Past: []tree.Doc{none}, Future: []tree.Doc{none, d}},
	}
}

func TestDeepLayers(t *testing.T) {
	for _, n := range []int{0, 1, 63, 64, 65, 66, 200} {
		for _, s := range states(chain(n)) {
			form := plainForm(s)
			same(t, "PutState", slices.Equal(pack.PutState(s), form), true)
			should := api.OK
			if n > 64 {
				should = api.ErrLimit
			}
			same(t, "GetState of layers in one another", readsState(t, form), should)
		}
	}
}

// Layers aren't deeper for what stands beside them.
func TestDeepLayersBesideOneAnother(t *testing.T) {
	d := tree.Doc{W: 1, H: 1, Next: 1000}
	for i := range 4 {
		other := chain(64)
		for l := &other.Kids[0]; ; l = &l.Kids[0] {
			l.ID += 100 * i
			if len(l.Kids) == 0 {
				break
			}
		}
		d.Kids = append(d.Kids, other.Kids...)
	}
	for _, s := range states(d) {
		keeps(t, s)
	}
	keeps(t, hist.State{Doc: chain(64), Past: []tree.Doc{chain(64), chain(64)}, Future: []tree.Doc{chain(64), chain(64)}})
}

func TestGreatDepths(t *testing.T) {
	form := pack.PutState(hist.State{Doc: chain(1 << 16)})
	_, fault := pack.GetState(form)
	same(t, "GetState of 65536 layers in one another", fault, api.ErrLimit)
}

// layerAhead is the form of a layer up to the number of its Kids.
func layerAhead(l tree.Layer) []byte {
	l.Kids = nil
	form := plainForm(l)
	return form[:len(form)-1]
}

// upTo is a state's form up to the number of the Kids of the layer that stands as deep.
func upTo(depth int) []byte {
	form := []byte{2, 2, 0x80, 0x80, 1, 2}
	for range depth - 1 {
		form = slices.Concat(form, layerAhead(plainGroup(1)), []byte{2})
	}
	return slices.Concat(form, layerAhead(plainGroup(1)))
}

// The limit is told when the layer comes: behind the list's own errors, ahead of all
// that the layer is.
func TestWhenTheLimitIsTold(t *testing.T) {
	for _, of := range []struct {
		behind []byte
		fault  api.Errno
	}{
		{nil, api.ErrEnd}, {long(1), api.ErrEnd}, {long(1, 0), api.ErrForm}, {plainNumber(-1), api.ErrForm},
		{plainNumber(1), api.ErrEnd}, {append(plainNumber(2), 0), api.ErrEnd}, {append(plainNumber(3), 0x80, 0), api.ErrEnd},
		{append(plainNumber(1), 0), api.ErrLimit}, {append(plainNumber(1), 0x80), api.ErrLimit},
		{append(plainNumber(1), 0x80, 0), api.ErrLimit}, {append(plainNumber(2), 0x80, 0), api.ErrLimit},
		{append(plainNumber(1), zeros(50)...), api.ErrLimit}, {[]byte{0}, api.ErrEnd}, {[]byte{0, 0, 0}, api.ErrData}, {[]byte{0, 0, 0, 0}, api.ErrForm},
	} {
		same(t, "behind the deepest layer "+hex(of.behind), readsState(t, append(upTo(64), of.behind...)), of.fault)
	}
	same(t, "a layer that is less deep", readsState(t, append(upTo(63), 2, 0x80, 0)), api.ErrForm)
	same(t, "a layer that is less deep", readsState(t, append(upTo(63), 2, 0)), api.ErrEnd)
}

// A layer that is too deep is told ahead of documents that aren't right.
func TestTheLimitAheadOfData(t *testing.T) {
	raster := chain(70)
	for l := &raster.Kids[0]; ; l = &l.Kids[0] {
		l.Kind = 0
		if len(l.Kids) == 0 {
			break
		}
	}
	for _, s := range append(states(raster), hist.State{Past: []tree.Doc{chain(65)}}) {
		same(t, "GetState", readsState(t, plainForm(s)), api.ErrLimit)
	}
}

// spoiled are documents that aren't right, each for another cause.
func spoiled(t *testing.T) []tree.Doc {
	t.Helper()
	all := []tree.Doc{{}, {W: 1, H: 1}, {W: 1, H: 1, Next: -1}, {W: 0, H: 1, Next: 1}, {W: 1, H: 32769, Next: 1}, {W: 2049, H: 2048, Next: 1}}
	for _, change := range []func(d *tree.Doc){
		func(d *tree.Doc) { d.Next = 64 },
		func(d *tree.Doc) { d.Kids[1].ID = 64 },
		func(d *tree.Doc) { d.Kids[1].ID = 0 },
		func(d *tree.Doc) { d.Kids[1].Kind = 3 },
		func(d *tree.Doc) { d.Kids[1].Kind = 0 },
		func(d *tree.Doc) { d.Kids[1].Opacity = 256 },
		func(d *tree.Doc) { d.Kids[1].Mode = 12 },
		func(d *tree.Doc) { d.Kids[1].W = 1 },
		func(d *tree.Doc) { d.Kids[1].P = []int{0} },
		func(d *tree.Doc) { d.Kids[1].Mask = []byte{0} },
		func(d *tree.Doc) { d.Kids[1].Mask = []byte{0, 1} },
		func(d *tree.Doc) { d.Kids[1].Map[4] = 1 },
		func(d *tree.Doc) { d.Kids[1].Smooth = true },
		func(d *tree.Doc) { d.Kids[1].Table = 3 },
		func(d *tree.Doc) { d.Kids[1].Params = []int{1} },
		func(d *tree.Doc) { d.Kids[0].Kids[0].P[0] = 0x01000000 },
		func(d *tree.Doc) { d.Kids[0].Kids[0].P = nil },
		func(d *tree.Doc) { d.Kids[0].Kids[0].Map = [6]int{} },
		func(d *tree.Doc) { d.Kids[0].Kids[0].Kids = []tree.Layer{plainGroup(6)} },
		func(d *tree.Doc) { d.Kids[0].Kids[1].Mode = 1 },
	} {
		d := small().Doc
		change(&d)
		all = append(all, d)
	}
	return all
}

func TestDocumentsThatAreNotRight(t *testing.T) {
	for _, d := range spoiled(t) {
		same(t, "Right of "+told(d), d.Right(), false)
		for _, s := range states(d) {
			form := plainForm(s)
			same(t, "PutState", slices.Equal(pack.PutState(s), form), true)
			same(t, "GetState of "+told(d), readsState(t, form), api.ErrData)
			same(t, "with a byte behind", readsState(t, append(form, 0)), api.ErrForm)
			same(t, "without the last byte", readsState(t, form[:len(form)-1]), api.ErrEnd)
		}
	}
}

func TestManyLayers(t *testing.T) {
	for _, n := range []int{4096, 4097} {
		d := tree.Doc{W: 1, H: 1, Next: n + 1}
		for id := 1; id <= n; id++ {
			d.Kids = append(d.Kids, plainGroup(id))
		}
		_, fault := pack.GetState(pack.PutState(hist.State{Doc: d}))
		same(t, "GetState of many layers", fault == api.OK, n == 4096)
		same(t, "GetState of many layers", fault == api.ErrData, n == 4097)
	}
}

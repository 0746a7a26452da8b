package tree

import (
	"bytes"
	"slices"

	"gangway/api"
)

// fileError tells why node is no file that can be asked for such places or counts, or OK.
func (w *work) fileError(node int, numbers ...int) api.Errno {
	switch w.nodes[node].Kind {
	case api.NodeDir:
		return api.ErrIsdir
	case api.NodeLink:
		return api.ErrInval
	}
	for _, n := range numbers {
		if n < 0 {
			return api.ErrInval
		}
	}
	return api.OK
}

func (w *work) read(node, at, n int) ([]byte, api.Errno) {
	if e := w.fileError(node, at, n); e != api.OK {
		return nil, e
	}
	b := w.nodes[node].Data
	b = b[min(at, len(b)):]
	return bytes.Clone(b[:min(n, len(b))]), api.OK
}

func (w *work) write(node, at int, b []byte, now int64) api.Errno {
	if e := w.fileError(node, at); e != api.OK {
		return e
	}
	// No sum is asked: at may be as great as numbers are.
	if at > api.MaxFile-len(b) {
		return api.ErrFbig
	}
	if len(b) == 0 {
		return api.OK
	}
	f := &w.nodes[node]
	f.Data = resized(f.Data, max(len(f.Data), at+len(b)))
	copy(f.Data[at:], b)
	f.Time = now
	return api.OK
}

func (w *work) cut(node, n int, now int64) api.Errno {
	if e := w.fileError(node, n); e != api.OK {
		return e
	}
	if n > api.MaxFile {
		return api.ErrFbig
	}
	f := &w.nodes[node]
	f.Data = resized(f.Data, n)
	f.Time = now
	return api.OK
}

// resized tells the first n bytes of b, with noughts behind them where b has fewer.
func resized(b []byte, n int) []byte {
	held := b[:min(n, len(b))]
	return slices.Concat(held, make([]byte, n-len(held)))
}

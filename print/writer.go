package print

import (
	"strconv"

	"seisin/api"
)

// unknown is the token of what has no source. No token of a source begins with it, so it makes the source invalid.
const unknown = "?"

// buffer holds a text of at most the length of a source.
type buffer struct {
	text []byte
	long bool // more was added than it holds
}

// add adds s to the text. Once that is too long it does not grow any more, for arguments may stand for a text that no memory holds.
func (b *buffer) add(s string) {
	if len(b.text)+len(s) > api.MaxText {
		b.long = true
	}
	if !b.long {
		b.text = append(b.text, s...)
	}
}

// writer writes lines of tokens into its buffer.
type writer struct {
	buffer
	locs  []string // the names of the locations
	begun bool     // the line has a token; that may be an empty one
}

// put writes tokens.
func (w *writer) put(words ...string) {
	for _, s := range words {
		if w.begun {
			w.add(" ")
		}
		w.add(s)
		w.begun = true
	}
}

// end ends the line.
func (w *writer) end() {
	w.add("\n")
	w.begun = false
}

// line writes tokens and ends the line.
func (w *writer) line(words ...string) {
	w.put(words...)
	w.end()
}

func num(n uint8) string {
	return strconv.Itoa(int(n))
}

func reg(n uint8) string {
	return "r" + num(n)
}

func arg(a api.Arg) string {
	if a.Reg {
		return reg(a.N)
	}
	return num(a.N)
}

// loc returns the name of a location.
func (w *writer) loc(n uint8) string {
	if int(n) >= len(w.locs) {
		return unknown
	}
	return w.locs[n]
}

// word returns the word that stands for a number.
func word(n uint8, words map[uint8]string) string {
	if s, ok := words[n]; ok {
		return s
	}
	return unknown
}

// mode writes the word that stands for a mode. One mode has an empty word, for it goes without saying.
func (w *writer) mode(n uint8, words map[uint8]string) {
	if s := word(n, words); s != "" {
		w.put(s)
	}
}

// prog writes a program.
func (w *writer) prog(p api.Prog) {
	w.line("test", p.Name)
	if len(p.Locs) > 0 {
		w.values(p.Init)
	}
	for _, thread := range p.Threads {
		if w.long {
			return
		}
		w.thread(thread)
	}
	w.put(word(p.Ask, map[uint8]string{api.AskSome: "some", api.AskNone: "none", api.AskAll: "all"}))
	w.cond(p.Cond)
	w.end()
}

// values writes the line of the locations' initial values, of which some may be missing.
func (w *writer) values(l []uint8) {
	w.put("init")
	for i, s := range w.locs {
		if w.long {
			return
		}
		w.put(s, "=")
		if i < len(l) {
			w.put(num(l[i]))
		}
	}
	w.end()
}

// thread writes the lines of a thread.
func (w *writer) thread(l []api.Ins) {
	w.line("thread")
	for _, x := range l {
		if w.long {
			return
		}
		w.ins(x)
		w.end()
	}
}

// ins writes an instruction.
func (w *writer) ins(x api.Ins) {
	formats := w.formats()
	if int(x.Op) >= len(formats) || formats[x.Op] == nil {
		w.put(unknown)
		return
	}
	formats[x.Op](x)
}

// formats returns what writes an instruction, by its Op.
func (w *writer) formats() [api.OpSkip + 1]func(api.Ins) {
	return [...]func(api.Ins){
		api.OpLoad: func(x api.Ins) {
			w.put(reg(x.Dst), "=", w.loc(x.Loc))
			w.mode(x.Mode, map[uint8]string{api.ModePlain: "", api.ModeAcquire: "acq"})
		},
		api.OpStore: func(x api.Ins) {
			w.put(w.loc(x.Loc), "=", arg(x.A))
			w.mode(x.Mode, map[uint8]string{api.ModePlain: "", api.ModeRelease: "rel"})
		},
		api.OpMove: func(x api.Ins) {
			fn := word(x.Fn, map[uint8]string{api.FnAdd: "+", api.FnSub: "-", api.FnXor: "^"})
			w.put(reg(x.Dst), "=", arg(x.A), fn, arg(x.B))
		},
		api.OpSwap: func(x api.Ins) {
			w.put(reg(x.Dst), "=", "swap", w.loc(x.Loc), arg(x.A))
		},
		api.OpFetch: func(x api.Ins) {
			w.put(reg(x.Dst), "=", "fetch", w.loc(x.Loc), arg(x.A))
		},
		api.OpCas: func(x api.Ins) {
			w.put(reg(x.Dst), "=", "cas", w.loc(x.Loc), arg(x.A), arg(x.B))
		},
		api.OpFence: func(x api.Ins) {
			w.put("fence")
			w.mode(x.Mode, map[uint8]string{api.ModeFull: "", api.ModeLoads: "loads", api.ModeStores: "stores"})
		},
		api.OpSkip: func(x api.Ins) {
			fn := word(x.Fn, map[uint8]string{api.FnEq: "==", api.FnNe: "!=", api.FnLt: "<"})
			w.put("skip", num(x.Skip), "if", arg(x.A), fn, arg(x.B))
		},
	}
}

// cond writes a condition.
func (w *writer) cond(c api.Cond) {
	switch c.Kind {
	case api.CondTrue:
		w.put("true")
	case api.CondReg:
		w.put(num(c.Thread)+":"+reg(c.N), "=", num(c.Val))
	case api.CondLoc:
		w.put(w.loc(c.N), "=", num(c.Val))
	case api.CondAnd:
		w.kids(c, "&")
	case api.CondOr:
		w.kids(c, "|")
	case api.CondNot:
		w.put("!")
		w.kids(c)
	default:
		w.put(unknown)
	}
}

// kids writes the Kids of a condition, with the tokens between any two of them.
func (w *writer) kids(c api.Cond, between ...string) {
	for i, kid := range c.Kids {
		if w.long {
			return
		}
		if i > 0 {
			w.put(between...)
		}
		w.kid(kid, c.Kind)
	}
}

// kid writes a Kid of a condition of the kind, in parentheses if it would be read otherwise without them.
func (w *writer) kid(c api.Cond, of uint8) {
	if c.Kind != api.CondOr && (c.Kind != api.CondAnd || of == api.CondOr) {
		w.cond(c)
		return
	}
	w.put("(")
	w.cond(c)
	w.put(")")
}

package probe

import (
	"errata/api"
	"errata/kinds"
)

// call is what the method of x tells by which an op names a face.
func (m *machine) call(op api.Op) api.Value {
	switch op.What {
	case api.FaceJudge:
		return yes(m.x.err.(api.Judge).Is(m.load(op.H).err))
	case api.FaceLender:
		return lent(m.x.err.(api.Lender), op.N)
	}
	return called(m.x.err, op.What)
}

// called asserts a value to a face that needs nothing handed, one-valued, and
// is what the face's methods tell.
func called(v any, face uint8) api.Value {
	switch face {
	case api.FaceError:
		return text(v.(error).Error())
	case api.FaceGrader:
		return number(v.(api.Grader).Grade())
	case api.FaceCoder:
		return number(v.(api.Coder).Code())
	case api.FaceWeigher:
		return float(v.(api.Weigher).Weight())
	case api.FacePhaser:
		phase := v.(api.Phaser).Phase()
		return api.Value{Kind: api.ValComplex, Re: real(phase), Im: imag(phase)}
	case api.FaceTimer:
		return yes(v.(api.Timer).Timeout())
	case api.FaceLiner:
		return number(v.(api.Liner).Line())
	case api.FaceDetailer:
		return list(texts(v.(api.Detailer).Details())...)
	case api.FaceOne:
		return yes(v.(api.One).Unwrap() != nil)
	case api.FaceMany:
		return number(len(v.(api.Many).Unwrap()))
	case api.FaceKinder:
		return number(v.(api.Kinder).Kind())
	case api.FaceSizer:
		return number(v.(api.Sizer).Len())
	case api.FaceTimedError:
		return timedError(v.(api.TimedError))
	case api.FaceCodedCause:
		return codedCause(v.(api.CodedCause))
	case api.FaceWhole:
		return whole(v.(api.Whole))
	case api.FaceNobody:
		_ = v.(api.Nobody)
	case api.FaceAny:
		_ = v.(any)
	}
	return api.Value{}
}

// Of a face with several methods they are called one by one, in the order of
// what they tell.

func timedError(v api.TimedError) api.Value {
	told := text(v.Error())
	return list(told, yes(v.Timeout()))
}

func codedCause(v api.CodedCause) api.Value {
	is := yes(v.Unwrap() != nil)
	return list(is, number(v.Code()))
}

func whole(v api.Whole) api.Value {
	told := text(v.Error())
	grade := number(v.Grade())
	weight := float(v.Weight())
	return list(told, grade, weight, yes(v.Timeout()))
}

// lent is what a Lender's As tells that is handed the n-th sort of thing, and
// the Code of what it lent.
func lent(v api.Lender, n int) api.Value {
	var is bool
	var code int16
	switch n {
	case 0:
		var coded kinds.Coded
		is = v.As(&coded)
		code = coded.Code()
	case 1:
		var coder api.Coder
		is = v.As(&coder)
		if coder != nil {
			code = coder.Code()
		}
	default:
		is = v.As(new(int))
	}
	return list(yes(is), number(code))
}

// part is the n-th of what Unwrap of x tells, in the form of a face; no error,
// if there is none.
func (m *machine) part(face uint8, n int) named {
	told := unwrapped(m.x.err, face)
	if n < 0 || n >= len(told) || told[n] == nil {
		return named{}
	}
	return named{told[n], m.unwrapsTo()[n]}
}

// unwrapped asserts a value to the face One or Many, one-valued, and is what
// its Unwrap tells. By another face it is asked in the form that it has.
func unwrapped(v any, face uint8) []error {
	switch face {
	case api.FaceOne:
		return []error{v.(api.One).Unwrap()}
	case api.FaceMany:
		return v.(api.Many).Unwrap()
	}
	if many, is := v.(api.Many); is {
		return many.Unwrap()
	}
	return []error{v.(api.One).Unwrap()}
}

// unwrapsTo are the handles of what Unwrap of x tells: its parts; but of a Full,
// whose Unwrap is its Wrap's, those of that one.
func (m *machine) unwrapsTo() []int {
	parts, _ := m.book.Parts(m.x.handle)
	if _, is := m.x.err.(kinds.Full); is {
		parts, _ = m.book.Parts(parts[0])
	}
	return parts
}

func text(s string) api.Value { return api.Value{Kind: api.ValText, Text: s} }

func float(x float64) api.Value { return api.Value{Kind: api.ValFloat, Re: x} }

func number[N int | int8 | int16 | uint8](n N) api.Value {
	return api.Value{Kind: api.ValInt, Int: int64(n)}
}

func yes(is bool) api.Value {
	v := api.Value{Kind: api.ValBool}
	if is {
		v.Int = 1
	}
	return v
}

func list(of ...api.Value) api.Value { return api.Value{Kind: api.ValList, List: of} }

func texts(of []string) []api.Value {
	var vs []api.Value
	for _, s := range of {
		vs = append(vs, text(s))
	}
	return vs
}

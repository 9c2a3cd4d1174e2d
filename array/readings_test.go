package array

import (
	"testing"

	"quadrat/api"
)

// Where the chapter leaves room, these are the readings that the package keeps to.

// A text that is no operation has no kinds that suit it: Kind is 0, which is ErrType. "A name" that is ErrArg is a function's.
func TestReadingNoOperation(t *testing.T) {
	for _, op := range noOperators() {
		for _, a := range allSamples() {
			checkOne(t, op, a, a, api.Value{}, api.ErrType)
			checkDo(t, op, alone(a), alone(a), api.Array{}, api.ErrType)
		}
	}
	for _, op := range []string{"", "*", "==", ".and.", "not", "--", "abs"} {
		for _, a := range allSamples() {
			if v, err := Only(op, a); v != (api.Value{}) || err != api.ErrType {
				t.Errorf("Only(%q, %v) = %v, %d", op, a, v, err)
			}
			if x, err := Single(op, alone(a)); !isNothing(x) || err != api.ErrType {
				t.Errorf("Single(%q, %v) = %v, %d", op, a, x, err)
			}
		}
	}
}

// A float that is of the kind already is not brought to it: also no numbers stay bit by bit; those that are brought become the quiet one.
func TestReadingSameKind(t *testing.T) {
	for _, v := range []api.Value{bits4(0x7fa00001), bits4(0xffffffff), bits8(-1), bits8(0x7ff0000000000001)} {
		if x, err := To(v.Kind, v); x != v || err != api.OK {
			t.Errorf("To(%d, %v) = %v, %d", v.Kind, v, x, err)
		}
		if x, err := Convert(v.Kind, alone(v)); !equal(x, alone(v)) || err != api.OK {
			t.Errorf("Convert(%d, %v) = %v, %d", v.Kind, v, x, err)
		}
		name := map[int]string{api.KReal4: "real", api.KReal8: "dble"}[v.Kind]
		checkCall(t, name, args(alone(v)), alone(v))
		for _, name := range []string{"min", "max"} {
			checkCall(t, name, args(alone(v), alone(v)), alone(v))
		}
		for _, name := range []string{"minval", "maxval"} {
			checkCall(t, name, args(of(v.Kind, v)), alone(v))
		}
		checkCall(t, "merge", args(alone(v), alone(v), alone(logical(1))), alone(v))
	}
	checkCall(t, "real", args(alone(bits8(-1))), alone(bits4(quiet4)))
	checkCall(t, "dble", args(alone(bits4(0xffffffff))), alone(bits8(quiet8)))
	checkCall(t, "max", args(alone(bits4(0xffffffff)), alone(real8(1))), alone(bits8(quiet8)))
}

// All that is wrong with reshape's list is ErrArg, its rank too; but for what makes too large an array, which is ErrShape, also where one extent alone is too large.
func TestReadingReshape(t *testing.T) {
	for _, s := range []api.Array{alone(integer(3)), counted(1, 1), zeros(api.KInt, 2, 0)} {
		checkError(t, "reshape", args(counted(3), s), api.ErrArg)
	}
	checkError(t, "reshape", args(counted(3), ints(4001, 0)), api.ErrShape)
	checkError(t, "reshape", args(ints(), ints(0, 5000)), api.ErrShape)
}

// cshift's and spread's number of another rank is ErrRank.
func TestReadingScalars(t *testing.T) {
	for _, n := range []api.Array{ints(1), ints(), ints(-9), counted(1, 1)} {
		checkError(t, "cshift", args(counted(3), n), api.ErrRank)
		checkError(t, "spread", args(counted(3), n), api.ErrRank)
	}
}

// size and shape take logicals, too, as do reshape, transpose, cshift, spread, pack, and merge.
func TestReadingLogicals(t *testing.T) {
	x := logicals(1, 0)
	checkCall(t, "size", args(x), alone(integer(2)))
	checkCall(t, "shape", args(x), ints(2))
	checkCall(t, "reshape", args(x, ints(1, 2)), in(api.KLogical, []int{1, 2}, 1, 0))
	checkCall(t, "transpose", args(in(api.KLogical, []int{1, 2}, 1, 0)), in(api.KLogical, []int{2, 1}, 1, 0))
	checkCall(t, "cshift", args(x, alone(integer(1))), logicals(0, 1))
	checkCall(t, "spread", args(x, alone(integer(1))), in(api.KLogical, []int{2, 1}, 1, 0))
	checkCall(t, "pack", args(x, x), logicals(1))
	checkCall(t, "merge", args(x, logicals(0, 1), logicals(0, 0)), logicals(0, 1))
}

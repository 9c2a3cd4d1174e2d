/- Contracts of package float's Add and Compare for every kind and two floats of it, and of the laws' own Awake: it returns true. -/
import Derived.Test.YtfdenbgmogojeaaDoorFloW
namespace Go.Proofs.YtfdenbgmogojeaaDoor
open Go.RowKit

set_option maxHeartbeats 1000000 in
theorem Add_c (k W D E mode a b : Int) (hk : KK k W D E) (hm : Mode mode) (ha : okB W a = true) (hb' : okB W b = true) (w : World) :
    Calls Tryd.prog 15 #[.int .i64 k, .int .i64 mode, .int .i64 a, .int .i64 b] w fun e w' => e = .returned (.tuple #[.int .i64 (addF W D mode a b).1, .int .i64 (addF W D mode a b).2, .int .i64 0]) ∧ Below w.heap.size w w' := by
  have H := Lib.hid (two_add k W D E mode a b hk hm ha hb')
  clear hk hm ha hb'
  go_enter Tryd.func15, Tryd.ntmps15
  go_wp2_with fail
  refine (H.out _).mono ?_
  rintro e w1 ⟨rfl, hb⟩
  go_wp2
  go_ret3
  exact ⟨rfl, hb⟩

/-- The names of the classes, as bytes. -/
def namesL : List ByteArray := [⟨#[122, 101, 114, 111]⟩, ⟨#[108, 101, 97, 115, 116]⟩, ⟨#[110, 111, 114, 109, 97, 108]⟩, ⟨#[105, 110, 102, 105, 110, 105, 116, 101]⟩, ⟨#[110, 111, 110, 101]⟩]
def CN (w : World) : Prop := ∀ i n, namesL[i]? = some n → w.cell? ⟨0, i, none⟩ = some (.string n)
theorem CN.keep {w w' : World} (h : CN w) (hb : Below w.heap.size w w') : CN w' := fun i n hn => ck hb (h i n hn)

theorem kk2 : KK 2 16 11 5 := .inl ⟨rfl, rfl, rfl, rfl⟩

set_option maxHeartbeats 1000000 in
theorem Awake_c (w : World) (hn : CN w) :
    Calls Tryd.prog 19 #[] w fun e w' => e = .returned (.bool true) ∧ Below w.heap.size w w' := by
  have H := Lib.hid hn; clear hn
  go_enter Tryd.func19, Tryd.ntmps19
  go_wp2_with fail
  refine (Add_c 2 16 11 5 0 15360 15360 kk2 (.inl rfl) (by decide) (by decide) _).mono ?_
  rw [show addF 16 11 0 15360 15360 = (16384, 0) by decide +kernel]
  rintro e w1 ⟨rfl, hb⟩
  go_wp2_with fail
  refine (Class_c 2 16 11 5 1 1 ⟨#[108, 101, 97, 115, 116]⟩ kk2 (by decide) (by decide) (by decide) _ ((H.out.keep hb) 1 _ rfl)).mono ?_
  rintro e w2 ⟨rfl, hb2⟩
  go_wp2
  go_ret
  exact ⟨rfl, bt hb hb2⟩

/-- A float's place in the order. -/
def placeF (W a : Int) : Int := if sgn W a = 1 then -(siz W a) else siz W a
def cmpF (W D a b : Int) : Int := if cls D (siz W a) = 4 ∨ cls D (siz W b) = 4 then 2 else if placeF W a < placeF W b then -1 else if placeF W b < placeF W a then 1 else 0
end Go.Proofs.YtfdenbgmogojeaaDoor

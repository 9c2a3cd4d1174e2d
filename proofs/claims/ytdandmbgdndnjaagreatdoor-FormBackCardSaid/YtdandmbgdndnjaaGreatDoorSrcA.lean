/- What a box in memory holds, and that it holds it behind calls, allocations and stores elsewhere; plain lemmas on worlds; bytes of a text. -/
import Derived.Test.YtdandmbgdndnjaaGreatDoorRows
import Derived.WalkKit
import Derived.WalkSpells
import Derived.WalkLawsBesides
import Derived.Handy
import Derived.Lib.Hide
import Derived.Laws.Rows
import Derived.Laws.AppendOwn
import Derived.OwnWalk
import Derived.Lib.Strings
namespace Go.Proofs.YtdandmbgdndnjaaGreatDoor
open Go.RowKit

/-- A cell that was there is there still. -/
theorem ck {wp w' : World} {p : Addr} {v : Value} (hb : Below wp.heap.size wp w') (h : wp.cell? p = some v) : w'.cell? p = some v := by
  rw [hb.cell (World.block_lt_of_cell? wp p h)]; exact h
theorem bt_ {w wp w' : World} (h : Below w.heap.size w wp) (hb : Below wp.heap.size wp w') : Below w.heap.size w w' := h.trans (hb.mono h.size)
theorem _root_.Go.RowKit.Below.st {B : Nat} {a w : World} {b i : Nat} {u : Value} (h : Below B a w) (hb : B ≤ b) : Below B a (w.setCell ⟨b, i, none⟩ u) := h.setCell hb u

/-- Block n of the world holds these cells, and none of them is frozen. -/
def Has (w : World) (n : Nat) (xs : List Value) : Prop := ∀ i v, xs[i]? = some v → w.cell? ⟨n, i, none⟩ = some v ∧ w.frozen? ⟨n, i, none⟩ = false

theorem Has.lt {w : World} {n : Nat} {x : Value} {xs : List Value} (h : Has w n (x :: xs)) : n < w.heap.size :=
  World.block_lt_of_cell? w _ (h 0 x rfl).1
theorem Has.keep {wp w' : World} {n : Nat} {xs : List Value} (h : Has wp n xs) (hb : Below wp.heap.size wp w') : Has w' n xs := fun i v hv => by
  obtain ⟨h1, h2⟩ := h i v hv
  have hn := World.block_lt_of_cell? wp _ h1
  exact ⟨by rw [hb.cell (p := ⟨n, i, none⟩) hn]; exact h1, by rw [hb.frozen (p := ⟨n, i, none⟩) hn]; exact h2⟩
theorem Has.alloc {wp : World} {n : Nat} {xs : List Value} (h : Has wp n xs) (o : Obj) : Has (wp.alloc o) n xs := fun i v hv => by
  obtain ⟨h1, h2⟩ := h i v hv
  have hn := World.block_lt_of_cell? wp _ h1
  exact ⟨by rw [World.cell?_alloc_past o n i hn]; exact h1, by rw [World.frozen?_alloc_past o n i hn]; exact h2⟩
theorem Has.drew {wp : World} {n : Nat} {xs : List Value} (h : Has wp n xs) : Has wp.drew n xs := h
theorem Has.new (wp : World) (xs : List Value) (t : TypeId) : Has (wp.alloc (.cells xs.toArray t)) wp.heap.size xs := fun i v hv => by
  exact ⟨by rw [World.cell?_alloc_at _ _ _ _ rfl]; simpa using hv, by rw [World.frozen?_alloc_at _ _ _ _ rfl]⟩
theorem Has.far {wp : World} {n m i : Nat} {xs : List Value} {v : Value} (h : Has wp n xs) (hne : m ≠ n) : Has (wp.setCell ⟨m, i, none⟩ v) n xs := fun j u hu => by
  obtain ⟨h1, h2⟩ := h j u hu
  exact ⟨(World.cell?_setCell_other wp ⟨m, i, none⟩ ⟨n, j, none⟩ v (by intro e; cases e; exact hne rfl)).trans h1, by rw [World.frozen?_setCell]; exact h2⟩
theorem Has.set {wp : World} {n i : Nat} {xs : List Value} {v : Value} (h : Has wp n xs) : Has (wp.setCell ⟨n, i, none⟩ v) n (xs.set i v) := fun j u hu => by
  by_cases e : i = j
  · subst e
    rw [List.getElem?_set_self'] at hu
    cases hx : xs[i]? with
    | none => rw [hx] at hu; cases hu
    | some y =>
      rw [hx] at hu; simp at hu; subst hu
      obtain ⟨h1, h2⟩ := h i y hx
      exact ⟨World.cell?_setCell_same wp _ _ h1, by rw [World.frozen?_setCell]; exact h2⟩
  · rw [List.getElem?_set_ne e] at hu
    obtain ⟨h1, h2⟩ := h j u hu
    exact ⟨(World.cell?_setCell_other wp ⟨n, i, none⟩ ⟨n, j, none⟩ v (by intro e'; cases e'; exact e rfl)).trans h1, by rw [World.frozen?_setCell]; exact h2⟩
theorem Has.drewN {w : World} {n : Nat} {xs : List Value} (h : Has w n xs) (k : Nat) : Has (w.drewN k) n xs := h
theorem Has.c1 {w : World} {n : Nat} {a : Value} (h : Has w n [a]) : w.cell? ⟨n, 0, none⟩ = some a := (h 0 a rfl).1
theorem Has.f1 {w : World} {n : Nat} {a : Value} (h : Has w n [a]) : w.frozen? ⟨n, 0, none⟩ = false := (h 0 a rfl).2
theorem Has.c2 {w : World} {n : Nat} {a b : Value} (h : Has w n [a, b]) : w.cell? ⟨n, 0, none⟩ = some a ∧ w.cell? ⟨n, 1, none⟩ = some b := ⟨(h 0 a rfl).1, (h 1 b rfl).1⟩
theorem Has.f2 {w : World} {n : Nat} {a b : Value} (h : Has w n [a, b]) : w.frozen? ⟨n, 0, none⟩ = false ∧ w.frozen? ⟨n, 1, none⟩ = false := ⟨(h 0 a rfl).2, (h 1 b rfl).2⟩

theorem own_below {w w' : World} {b : Nat} {e : TypeId} {sz n : Nat} {v : Value} {xs : List Value} (h : w.ownsRow b e sz v n xs) (hb : Below w.heap.size w w') : w'.ownsRow b e sz v n xs := by
  have hlt := h.lt
  refine ⟨h.1, ?_⟩
  rcases h.2 with h0 | ⟨g, cap, cur, rfl, hg, hc, hr⟩
  · exact .inl h0
  · exact .inr ⟨g, cap, cur, rfl, hg, (hb.block g (hlt g rfl).2).trans hc, hr⟩
theorem ret_b {a b : Bool} (h : a = b) : Ending.returned (.bool a) = .returned (.bool b) := by rw [h]
theorem ret_i {k : IntKind} {a b : Int} (h : a = b) : Ending.returned (.int k a) = .returned (.int k b) := by rw [h]

/-- The byte at a place, 0 behind the end. -/
def bt (L : List UInt8) (i : Nat) : Nat := (L.getD i 0).toNat
theorem bt_lt (L : List UInt8) (i : Nat) : bt L i < 256 := UInt8.toNat_lt _
theorem bt_get (s : ByteArray) (k : Nat) (h : k < s.size) : bt s.data.toList k = s[k].toNat := by
  unfold bt
  rw [List.getD_eq_getElem?_getD, List.getElem?_eq_getElem (by simpa using h)]
  rfl
/-- The bytes from one place to another. -/
def sub (L : List UInt8) (a b : Nat) : List UInt8 := (L.drop a).take (b - a)
theorem sub_ext (s : ByteArray) (a b : Nat) : (s.extract a b).data.toList = sub s.data.toList a b := Lib.extract_data s a b

/-- Which quote is open behind a byte, if o is open ahead of it (0: none). -/
def bh (o b : Nat) : Nat := if o = b then 0 else if o = 0 ∧ (b = 39 ∨ b = 34) then b else o
/-- Which quote is open behind a text. -/
def opB (L : List UInt8) (o : Nat) : Nat := L.foldl (fun o c => bh o c.toNat) o
theorem opB_step (s : ByteArray) (k : Nat) (h : k < s.size) (o : Nat) : opB (s.data.toList.take (k + 1)) o = bh (opB (s.data.toList.take k) o) s[k].toNat := by
  unfold opB
  rw [List.take_add_one, List.getElem?_eq_getElem (by simpa using h), List.foldl_append]
  rfl
theorem bh_lt {o b : Nat} (ho : o < 256) (hb : b < 256) : bh o b < 256 := by unfold bh; split <;> (try split) <;> omega
theorem opB_lt (L : List UInt8) : ∀ o, o < 256 → opB L o < 256 := by
  induction L with
  | nil => intro o h; exact h
  | cons c L ih => intro o h; exact ih _ (bh_lt h (UInt8.toNat_lt c))

set_option maxHeartbeats 1000000 in
theorem behind_c (o b : Nat) (w : World) : Calls Tryz.prog 60 #[.int .u8 (o : Int), .int .u8 (b : Int)] w fun e w' => e = .returned (.int .u8 (bh o b : Int)) ∧ w = w' := by
  by_cases h1 : o = b
  · subst h1
    have Hx := Lib.hid (show bh o o = 0 by unfold bh; rw [if_pos rfl])
    go_enter Tryz.func60, Tryz.ntmps60
    go_wp2
    go_ret
    exact ⟨by rw [Hx.out]; rfl, rfl⟩
  · have f1 : ((o : Int) == (b : Int)) = false := by simp; omega
    by_cases h2 : o = 0
    · subst h2
      by_cases h3 : b = 39
      · subst h3
        go_enter Tryz.func60, Tryz.ntmps60
        go_wp2
        go_ret
        exact ⟨rfl, rfl⟩
      · have f3 : ((b : Int) == 39) = false := by simp; omega
        by_cases h4 : b = 34
        · subst h4
          go_enter Tryz.func60, Tryz.ntmps60
          go_wp2
          go_ret
          exact ⟨rfl, rfl⟩
        · have f4 : ((b : Int) == 34) = false := by simp; omega
          have Hx := Lib.hid (show bh 0 b = 0 by unfold bh; rw [if_neg h1, if_neg (by omega)])
          clear h1 h3 h4
          go_enter Tryz.func60, Tryz.ntmps60
          go_wp2
          go_ret
          exact ⟨by rw [Hx.out]; rfl, rfl⟩
    · have f2 : ((o : Int) == 0) = false := by simp; omega
      have Hx := Lib.hid (show bh o b = o by unfold bh; rw [if_neg h1, if_neg (by omega)])
      clear h1 h2
      go_enter Tryz.func60, Tryz.ntmps60
      go_wp2
      go_ret
      exact ⟨by rw [Hx.out]; rfl, rfl⟩

set_option maxRecDepth 100000 in
set_option maxHeartbeats 1000000 in
theorem openBehind_c (s : ByteArray) (hs : s.size ≤ 1000000) (o : Nat) (w : World) : Calls Tryz.prog 33 #[.string s, .int .u8 (o : Int)] w fun e w' => e = .returned (.int .u8 (opB s.data.toList o : Int)) ∧ w = w' := by
  go_enter Tryz.func33, Tryz.ntmps33
  go_wp2_with fail
  go_loop [1, 8] (fun a t => ∃ k : Nat, k ≤ s.size ∧ t = .int .i64 (k : Int) ∧ a = .int .u8 (opB (s.data.toList.take k) o : Int)) (fun _ t => s.size - (intOf t).toNat)
  case atStart => exact ⟨0, by omega, rfl, rfl⟩
  case round =>
    obtain ⟨k, hk, rfl, rfl⟩ := hrel
    by_cases hlt : k < s.size
    · have Hst := Lib.hid (opB_step s k hlt o)
      generalize opB (s.data.toList.take k) o = q at *
      go_wp2_with fail
      refine (behind_c _ _ _).mono ?_
      rw [← Hst.out]
      rintro e w' ⟨rfl, rfl⟩
      go_wp2
      go_round
      case rel => exact ⟨k + 1, by omega, by go_num, rfl⟩
      case measure => simp [intOf]; omega
    · have Hfin := Lib.hid (show s.data.toList.take k = s.data.toList from List.take_of_length_le (by simp; omega))
      rw [Hfin.out]
      go_wp2
      go_ret
      exact ⟨rfl, rfl⟩
end Go.Proofs.YtdandmbgdndnjaaGreatDoor

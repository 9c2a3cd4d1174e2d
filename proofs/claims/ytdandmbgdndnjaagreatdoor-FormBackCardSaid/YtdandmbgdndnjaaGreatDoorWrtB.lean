/- A slice of statements in memory; contract of the program's Valid. -/
import Derived.Test.YtdandmbgdndnjaaGreatDoorWrtA
namespace Go.Proofs.YtdandmbgdndnjaaGreatDoor
open Go.RowKit

/-- A statement as it comes in: its label, its text, its line. -/
abbrev Ln := Int × ByteArray × Int
def lcells (l : List Ln) : List Value := l.flatMap fun x => [.int .i64 x.1, .string x.2.1, .int .i64 x.2.2]
/-- A value that is a slice of statements. -/
def RL (w : World) (v : Value) (l : List Ln) : Prop :=
  ∃ A cap, v = .slice A l.length cap ∧ l.length ≤ 9223372036854775807 ∧ (0 < l.length → ∃ b o : Nat, A = some ⟨b, o, none⟩ ∧ ∀ j u, (lcells l)[j]? = some u → w.cell? ⟨b, o + j, none⟩ = some u)
theorem RL.keep {w w' : World} {v : Value} {l : List Ln} (h : RL w v l) (hb : Below w.heap.size w w') : RL w' v l := by
  obtain ⟨A, cap, rfl, hm, hc⟩ := h
  exact ⟨A, cap, rfl, hm, fun h0 => by obtain ⟨b, o, rfl, h1⟩ := hc h0; exact ⟨b, o, rfl, fun j u hu => ck hb (h1 j u hu)⟩⟩
theorem lcell_at {l : List Ln} {k : Nat} {x : Ln} (h : l[k]? = some x) : (lcells l)[k * 3]? = some (.int .i64 x.1) ∧ (lcells l)[k * 3 + 1]? = some (.string x.2.1) ∧ (lcells l)[k * 3 + 2]? = some (.int .i64 x.2.2) := by
  induction l generalizing k with
  | nil => cases h
  | cons a l ih =>
    cases k with
    | zero => simp at h; subst h; exact ⟨rfl, rfl, rfl⟩
    | succ k =>
      simp at h
      have := ih h
      have e : ∀ j, (lcells (a :: l))[j + 3]? = (lcells l)[j]? := fun j => rfl
      rw [show (k + 1) * 3 = k * 3 + 3 by omega, show k * 3 + 3 + 1 = k * 3 + 1 + 3 by omega, show k * 3 + 3 + 2 = k * 3 + 2 + 3 by omega, e, e, e]
      exact this
/-- The cells of the k-th statement. -/
theorem RL.at {w : World} {A : Option Addr} {n cap : Nat} {l : List Ln} {k : Nat} {x : Ln} (h : RL w (.slice A n cap) l) (hx : l[k]? = some x) :
    ∃ b o : Nat, A = some ⟨b, o, none⟩ ∧ w.cell? ⟨b, o + k * 3, none⟩ = some (.int .i64 x.1) ∧ w.cell? ⟨b, o + k * 3 + 1, none⟩ = some (.string x.2.1) ∧ w.cell? ⟨b, o + k * 3 + 2, none⟩ = some (.int .i64 x.2.2) := by
  obtain ⟨A', cap', e, hm, hc⟩ := h
  cases e
  obtain ⟨hk, _⟩ := List.getElem?_eq_some_iff.1 hx
  obtain ⟨b, o, rfl, h1⟩ := hc (by omega)
  obtain ⟨c0, c1, c2⟩ := lcell_at hx
  exact ⟨b, o, rfl, h1 _ _ c0, h1 _ _ c1, h1 _ _ c2⟩

/-- Whether a statement is right. -/
def okL (x : Ln) : Bool := decide (0 ≤ x.1) && decide (x.1 ≤ 99999) && decide (x.2.1.size ≤ 8000) && isTB x.2.1.data.toList
def vlB (l : List Ln) : Bool := decide (l.length ≤ 200) && l.all okL
theorem all_step {l : List Ln} {k : Nat} {x : Ln} (h : l[k]? = some x) : (l.take (k + 1)).all okL = ((l.take k).all okL && okL x) := by
  rw [List.take_add_one, h, List.all_append]; simp
theorem all_no {l : List Ln} {k : Nat} {x : Ln} (h : l[k]? = some x) (hx : okL x = false) : l.all okL = false := by
  rw [List.all_eq_false]
  exact ⟨x, List.mem_of_getElem? h, by rw [hx]; decide⟩
theorem okL_1 {x : Ln} (h : x.1 < 0) : okL x = false := by unfold okL; rw [decide_eq_false (show ¬ 0 ≤ x.1 by omega)]; rfl
theorem okL_2 {x : Ln} (h : 99999 < x.1) : okL x = false := by unfold okL; rw [decide_eq_false (show ¬ x.1 ≤ 99999 by omega), Bool.and_false]; rfl
theorem okL_3 {x : Ln} (h : 8000 < x.2.1.size) : okL x = false := by unfold okL; rw [decide_eq_false (show ¬ x.2.1.size ≤ 8000 by omega), Bool.and_false]; rfl
theorem okL_4 {x : Ln} (h : isTB x.2.1.data.toList = false) : okL x = false := by unfold okL; rw [h, Bool.and_false]
theorem okL_ok {x : Ln} (h1 : ¬ x.1 < 0) (h2 : ¬ 99999 < x.1) (h3 : ¬ 8000 < x.2.1.size) (h4 : isTB x.2.1.data.toList = true) : okL x = true := by
  unfold okL; rw [h4, decide_eq_true (show 0 ≤ x.1 by omega), decide_eq_true (show x.1 ≤ 99999 by omega), decide_eq_true (show x.2.1.size ≤ 8000 by omega)]; rfl

set_option maxRecDepth 100000 in
set_option maxHeartbeats 4000000 in
theorem Valid_c (v : Value) (l : List Ln) (w : World) (h : RL w v l) : Calls Tryz.prog 14 #[v] w fun e w' => e = .returned (.bool (vlB l)) ∧ Below w.heap.size w w' := by
  obtain ⟨A, cap, rfl, hmx, _⟩ := id h
  have H := Lib.hid h
  clear h
  obtain ⟨b, hb⟩ : ∃ b : Bool, b = vlB l := ⟨_, rfl⟩
  have Hb := Lib.hid hb
  rw [← hb]
  clear hb
  by_cases hlen : 200 < l.length
  · have f1 : decide ((200 : Int) < (l.length : Int)) = true := by simp; omega
    have f2 : decide (200 < l.length) = true := by simp; omega
    have Hf := Lib.hid (show b = false by rw [Hb.out]; unfold vlB; rw [decide_eq_false (by omega)]; rfl)
    go_enter Tryz.func14, Tryz.ntmps14
    go_wp2
    go_ret
    exact ⟨by rw [Hf.out]; rfl, Below.refl _ _⟩
  · have f1 : decide ((200 : Int) < (l.length : Int)) = false := by simp; omega
    have f2 : decide (200 < l.length) = false := by simp; omega
    go_enter Tryz.func14, Tryz.ntmps14
    go_wp2_with fail
    go_loopw [10] (fun t wr => ∃ k : Nat, k ≤ l.length ∧ t = .int .i64 (k : Int) ∧ (l.take k).all okL = true ∧ Below w.heap.size w wr) (fun t _ => l.length - (intOf t).toNat)
    case atStart => exact ⟨0, by omega, rfl, rfl, Below.refl _ _⟩
    case round =>
      obtain ⟨k, hk, rfl, hal, hB⟩ := hrel
      have hk0 : (0 : Int) ≤ (k : Int) := by omega
      by_cases hlt : k < l.length
      · obtain ⟨x, hx⟩ : ∃ x, l[k]? = some x := ⟨_, List.getElem?_eq_getElem hlt⟩
        obtain ⟨bb, o, rfl, c0, c1, c2⟩ := (H.out.keep hB).at hx
        have Hst := Lib.hid (all_step hx)
        have Hno := Lib.hid (fun h => show b = false by rw [Hb.out]; unfold vlB; rw [all_no hx h, Bool.and_false])
        have Hal := Lib.hid hal
        obtain ⟨x0, x1, x2⟩ := x
        simp only at c0 c1 c2
        clear hal hx
        have hB2 := hB.alloc hB.size (.cells #[.int .i64 x0, .string x1, .int .i64 x2] 34)
        go_wp2_with fail
        rotate_left
        · have Hf := Lib.hid (Hno.out (okL_3 (show 8000 < x1.size by omega)))
          go_ret
          exact ⟨by rw [Hf.out]; rfl, hB2⟩
        · have Hf := Lib.hid (Hno.out (okL_2 (show 99999 < x0 by omega)))
          go_ret
          exact ⟨by rw [Hf.out]; rfl, hB2⟩
        · have Hf := Lib.hid (Hno.out (okL_1 (show x0 < 0 by omega)))
          go_ret
          exact ⟨by rw [Hf.out]; rfl, hB2⟩
        have hbx := Has.new wr [.int .i64 x0, .string x1, .int .i64 x2] 34
        have Hbx := Lib.hid hbx
        clear hbx
        refine (printable_c x1 _).mono ?_
        generalize hp : prB x1.data.toList = p
        have Hp := Lib.hid hp
        clear hp
        rintro e w2 ⟨rfl, hB3⟩
        have hBB := bt_ hB2 hB3
        obtain ⟨d0, d1, d2⟩ := (Hbx.out.keep hB3).c3
        clear hB3 hB2 hB
        cases p
        · have Hf := Lib.hid (Hno.out (okL_4 (isT_3 Hp.out)))
          go_wp2
          go_ret
          exact ⟨by rw [Hf.out]; rfl, hBB⟩
        go_wp2_with fail
        refine (isStatement_c x1 (by omega) _).mono ?_
        generalize hq : isStB x1.data.toList = q
        have Hq := Lib.hid hq
        clear hq
        rintro e w3 ⟨rfl, hB4⟩
        have hBC := bt_ hBB hB4
        clear hB4 hBB
        cases q
        · have Hf := Lib.hid (Hno.out (okL_4 (show isTB x1.data.toList = false by unfold isTB; rw [Hq.out]; rfl)))
          go_wp2
          go_ret
          exact ⟨by rw [Hf.out]; rfl, hBC⟩
        have Hn := Lib.hid (show (l.take (k + 1)).all okL = true by
          rw [Hst.out, Hal.out, okL_ok (x := (x0, x1, x2)) (show ¬ x0 < 0 by omega) (show ¬ 99999 < x0 by omega) (show ¬ 8000 < x1.size by omega) (show isTB x1.data.toList = true by unfold isTB; rw [Hq.out, Hp.out]; rfl)]
          rfl)
        go_wp2
        go_roundw
        case rel => exact ⟨k + 1, by omega, by go_num, Hn.out, hBC⟩
        case measure => simp [intOf]; omega
      · obtain rfl : k = l.length := by omega
        rw [List.take_length] at hal
        have Hf := Lib.hid (show b = true by rw [Hb.out]; unfold vlB; rw [hal, decide_eq_true (by omega)]; rfl)
        clear hal
        go_wp2
        go_ret
        exact ⟨by rw [Hf.out]; rfl, hB⟩

set_option maxRecDepth 100000 in
set_option maxHeartbeats 4000000 in
theorem rValid_c (v : Value) (l : List Ln) (w : World) (h : RL w v l) : Calls Tryz.prog 15 #[v] w fun e w' => e = .returned (.bool (vlB l)) ∧ Below w.heap.size w w' := by
  obtain ⟨A, cap, rfl, hmx, _⟩ := id h
  have H := Lib.hid h
  clear h
  obtain ⟨b, hb⟩ : ∃ b : Bool, b = vlB l := ⟨_, rfl⟩
  have Hb := Lib.hid hb
  rw [← hb]
  clear hb
  go_enter Tryz.func15, Tryz.ntmps15
  go_wp2_with fail
  go_loopw [3] (fun t wr => ∃ k : Nat, k ≤ l.length ∧ t = .int .i64 (k : Int) ∧ (l.take k).all okL = true ∧ Below w.heap.size w wr) (fun t _ => l.length - (intOf t).toNat)
  case atStart => exact ⟨0, by omega, rfl, rfl, Below.refl _ _⟩
  case round =>
    obtain ⟨k, hk, rfl, hal, hB⟩ := hrel
    have hk0 : (0 : Int) ≤ (k : Int) := by omega
    by_cases hlt : k < l.length
    · obtain ⟨x, hx⟩ : ∃ x, l[k]? = some x := ⟨_, List.getElem?_eq_getElem hlt⟩
      obtain ⟨bb, o, rfl, c0, c1, c2⟩ := (H.out.keep hB).at hx
      have Hst := Lib.hid (all_step hx)
      have Hno := Lib.hid (fun h => show b = false by rw [Hb.out]; unfold vlB; rw [all_no hx h, Bool.and_false])
      have Hal := Lib.hid hal
      obtain ⟨x0, x1, x2⟩ := x
      simp only at c0 c1 c2
      clear hal hx
      go_wp2_with fail
      rotate_left
      · have Hf := Lib.hid (Hno.out (okL_3 (show 8000 < x1.size by omega)))
        go_ret
        exact ⟨by rw [Hf.out]; rfl, hB⟩
      · have Hf := Lib.hid (Hno.out (okL_2 (show 99999 < x0 by omega)))
        go_ret
        exact ⟨by rw [Hf.out]; rfl, hB⟩
      · have Hf := Lib.hid (Hno.out (okL_1 (show x0 < 0 by omega)))
        go_ret
        exact ⟨by rw [Hf.out]; rfl, hB⟩
      refine (rIsText_c x1 (by omega) _).mono ?_
      generalize hp : isTB x1.data.toList = p
      have Hp := Lib.hid hp
      clear hp
      rintro e w2 ⟨rfl, hB3⟩
      have hBB := bt_ hB hB3
      clear hB3 hB
      cases p
      · have Hf := Lib.hid (Hno.out (okL_4 Hp.out))
        go_wp2
        go_ret
        exact ⟨by rw [Hf.out]; rfl, hBB⟩
      have Hn := Lib.hid (show (l.take (k + 1)).all okL = true by
        rw [Hst.out, Hal.out, okL_ok (x := (x0, x1, x2)) (show ¬ x0 < 0 by omega) (show ¬ 99999 < x0 by omega) (show ¬ 8000 < x1.size by omega) Hp.out]
        rfl)
      go_wp2
      go_roundw
      case rel => exact ⟨k + 1, by omega, by go_num, Hn.out, hBB⟩
      case measure => simp [intOf]; omega
    · obtain rfl : k = l.length := by omega
      rw [List.take_length] at hal
      have Hf := Lib.hid (show b = decide (l.length ≤ 200) by rw [Hb.out]; unfold vlB; rw [hal, Bool.and_true])
      clear hal
      by_cases h2 : l.length ≤ 200
      · have g1 : decide ((l.length : Int) ≤ 200) = true := by simp; omega
        have g2 : decide (l.length ≤ 200) = true := by simp; omega
        have Hg := Lib.hid (show b = true by rw [Hf.out, g2])
        go_wp2
        go_ret
        exact ⟨by rw [Hg.out]; rfl, hB⟩
      · have g1 : decide ((l.length : Int) ≤ 200) = false := by simp; omega
        have g2 : decide (l.length ≤ 200) = false := by simp; omega
        have Hg := Lib.hid (show b = false by rw [Hf.out, g2])
        go_wp2
        go_ret
        exact ⟨by rw [Hg.out]; rfl, hB⟩
end Go.Proofs.YtdandmbgdndnjaaGreatDoor

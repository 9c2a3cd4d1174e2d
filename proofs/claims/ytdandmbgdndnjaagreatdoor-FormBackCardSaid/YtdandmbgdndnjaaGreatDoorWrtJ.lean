/- Contract of the law's SameLines where both lists say the same; statements that were read, as a list in memory. -/
import Derived.Test.YtdandmbgdndnjaaGreatDoorWrtI
import Derived.Test.YtdandmbgdndnjaaGreatDoorOldB
import Derived.Test.YtdandmbgdndnjaaGreatDoorSrcAw
namespace Go.Proofs.YtdandmbgdndnjaaGreatDoor
open Go.RowKit

set_option maxRecDepth 100000 in
set_option maxHeartbeats 2000000 in
theorem SameLines_c (va vb : Value) (a b : List Ln) (w : World) (ha : RL w va a) (hb : RL w vb b) (hn : a.length = b.length) (he : ∀ (k : Nat) (x y : Ln), a[k]? = some x → b[k]? = some y → x.1 = y.1 ∧ x.2.1 = y.2.1) :
    Calls Tryz.prog 21 #[va, vb, .bool false] w fun e w' => e = .returned (.bool true) ∧ ∃ n, w' = w.drewN n := by
  obtain ⟨A, ca, rfl, hma, -⟩ := id ha
  obtain ⟨B, cb, rfl, hmb, -⟩ := id hb
  have HA := Lib.hid ha; have HB := Lib.hid hb; have HE := Lib.hid he; have HN := Lib.hid hn
  rw [← hn]
  clear ha hb he hn hmb
  go_enter Tryz.func21, Tryz.ntmps21
  go_wp2_with fail
  go_loopw [7] (fun t wr => ∃ k : Nat, k ≤ a.length ∧ t = .int .i64 (k : Int) ∧ ∃ n, wr = w.drewN n) (fun t _ => a.length - (intOf t).toNat)
  case atStart => exact ⟨0, by omega, rfl, 0, rfl⟩
  case round =>
    obtain ⟨k, hk, rfl, nn, rfl⟩ := hrel
    have hk0 : (0 : Int) ≤ (k : Int) := by omega
    by_cases hlt : k < a.length
    · obtain ⟨x, hx⟩ : ∃ x, a[k]? = some x := ⟨_, List.getElem?_eq_getElem hlt⟩
      obtain ⟨y, hy⟩ : ∃ y, b[k]? = some y := ⟨_, List.getElem?_eq_getElem (by have := HN.out; omega)⟩
      obtain ⟨e1, e2⟩ := HE.out k x y hx hy
      obtain ⟨bb, o, rfl, c0, c1, c2⟩ := HA.out.at hx
      obtain ⟨bc, p, rfl, d0, d1, d2⟩ := HB.out.at hy
      obtain ⟨x0, x1, x2⟩ := x
      obtain ⟨y0, y1, y2⟩ := y
      simp only at c0 c1 c2 d0 d1 d2 e1 e2
      subst e1 e2
      have q0 : (x0 != x0) = false := by simp
      clear hx hy
      go_wp2_with fail
      go_quiet (fail)
      go_wp2
      go_roundw
      case rel => exact ⟨k + 1, by omega, by go_num, nn + nq, rfl⟩
      case measure => simp [intOf]; omega
    · obtain rfl : k = a.length := by omega
      go_wp2
      go_ret
      exact ⟨rfl, nn, rfl⟩

/-- A statement that was read, as one that comes in. -/
def lnOf (s : St) : Ln := ((s.1 : Int), ⟨s.2.1.toArray⟩, (s.2.2 : Int))
theorem scells_ln : ∀ (l : List St), scells l = lcells (l.map lnOf)
  | [] => rfl
  | s :: l => by
    have := scells_ln l
    unfold scells lcells at this ⊢
    rw [List.flatMap_cons, List.map_cons, List.flatMap_cons, this]
    rfl
theorem RL.ofOwn {w : World} {b : Nat} {v : Value} {l : List St} (h : w.ownsRow b 34 3 v l.length (scells l)) (hn : l.length ≤ 1000) : RL w v (l.map lnOf) := by
  by_cases h0 : 0 < l.length
  · obtain ⟨g, cap, rfl, -, -, hc⟩ := own_cells h h0
    refine ⟨_, cap, by rw [List.length_map], by rw [List.length_map]; omega, fun _ => ⟨g, 0, rfl, fun j u hu => ?_⟩⟩
    rw [← scells_ln] at hu
    rw [Nat.zero_add]
    exact hc j u hu
  · have e : l = [] := List.length_eq_zero_iff.1 (by omega)
    subst e
    rcases h.2 with ⟨h, hn⟩ | ⟨g, cap, cur, h, _⟩
    · exact ⟨none, 0, h, by simp, fun h => absurd h (by simp)⟩
    · exact ⟨_, cap, h, by simp, fun h => absurd h (by simp)⟩
theorem same_keys {sts : List St} {l : List Ln} (hv : vlB l = true) (hk : sts.map (fun s => (s.1, s.2.1)) = l.map kyL) :
    l.length = (sts.map lnOf).length ∧ ∀ (k : Nat) (x y : Ln), l[k]? = some x → (sts.map lnOf)[k]? = some y → x.1 = y.1 ∧ x.2.1 = y.2.1 := by
  unfold vlB at hv
  rw [Bool.and_eq_true] at hv
  refine ⟨by have := congrArg List.length hk; simpa using this.symm, fun k x y hx hy => ?_⟩
  rw [List.getElem?_map] at hy
  obtain ⟨s, hs, rfl⟩ := Option.map_eq_some_iff.1 hy
  have e : (l.map kyL)[k]? = some (kyL x) := by rw [List.getElem?_map, hx]; rfl
  rw [← hk, List.getElem?_map, hs] at e
  have e2 : (s.1, s.2.1) = kyL x := Option.some.inj e
  obtain ⟨h0, -, -⟩ := okL_bounds (List.all_eq_true.1 hv.2 x (List.mem_of_getElem? hx))
  have e3 : s.1 = x.1.toNat := congrArg Prod.fst e2
  have e4 : s.2.1 = x.2.1.data.toList := congrArg Prod.snd e2
  constructor
  · show x.1 = (s.1 : Int)
    omega
  · show x.2.1 = ⟨s.2.1.toArray⟩
    rw [e4, Lib.mk_data]
/-- What is written: nothing and an error, or all of it. -/
theorem wrA_two (ok : Bool) (B : List UInt8) : (∃ m : Nat, m ≠ 0 ∧ wrA ok B = ([], m)) ∨ (ok = true ∧ B.length ≤ 8000 ∧ wrA ok B = (B, 0)) := by
  unfold wrA
  cases ok
  · exact Or.inl ⟨2, by decide, if_pos rfl⟩
  · by_cases h : 8000 < B.length
    · exact Or.inl ⟨4, by decide, by rw [if_neg (by decide), if_pos h]⟩
    · exact Or.inr ⟨rfl, by omega, by rw [if_neg (by decide), if_neg h]⟩
end Go.Proofs.YtdandmbgdndnjaaGreatDoor

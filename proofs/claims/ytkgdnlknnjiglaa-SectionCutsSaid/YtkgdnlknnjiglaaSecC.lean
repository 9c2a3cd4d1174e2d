/- Contracts of SameInts, Same, product and size; slices.IndexFunc and slices.ContainsFunc over numbers, for any function. -/
import Derived.Test.YtkgdnlknnjiglaaSecA
import Derived.Shelf.Abstract
namespace Go.Proofs.Ytkgdnlknnjiglaa
open Go.RowKit

theorem take_eqI {l1 l2 : List Int} {k : Nat} {t : Int} (ht : l1.take k = l2.take k) (h1 : l1[k]? = some t) (h2 : l2[k]? = some t) : l1.take (k + 1) = l2.take (k + 1) := by
  rw [List.take_add_one, List.take_add_one, ht, h1, h2]
set_option maxRecDepth 100000 in
set_option maxHeartbeats 2000000 in
theorem sameInts_c (v1 v2 : Value) (l1 l2 : List Int) (w : World) (h1 : RI w v1 l1) (h2 : RI w v2 l2) :
    Calls Try.prog 23 #[v1, v2] w fun e w' => e = .returned (.bool (decide (l1 = l2))) ∧ ∃ n, w' = w.drewN n := by
  obtain ⟨A1, c1, rfl, hm1, hf1, hc1⟩ := h1
  obtain ⟨A2, c2, rfl, hm2, hf2, hc2⟩ := h2
  by_cases hl : l1.length = l2.length
  · have hb : ((l1.length : Int) == (l2.length : Int)) = true := by simp; omega
    have HL := Lib.hid hl; clear hl
    have Hf1 := Lib.hid hf1; have Hf2 := Lib.hid hf2; clear hf1 hf2
    go_enter Try.func23, Try.ntmps23
    go_wp2_with fail
    go_loopw [5] (fun x wr => ∃ k : Nat, k ≤ l1.length ∧ x = .int .i64 (k : Int) ∧ l1.take k = l2.take k ∧ ∃ n, wr = w.drewN n) (fun x _ => l1.length - (intOf x).toNat)
    case atStart => exact ⟨0, by omega, rfl, rfl, 0, rfl⟩
    case round =>
      obtain ⟨k, hk, rfl, ht, nn, rfl⟩ := hrel
      have Ht := Lib.hid ht; clear ht
      by_cases hlt : k < l1.length
      · obtain ⟨b1, o1, rfl, hr1⟩ := hc1 (by omega)
        obtain ⟨b2, o2, rfl, hr2⟩ := hc2 (by have := HL.out; omega)
        obtain ⟨a, hga⟩ : ∃ t, l1[k]? = some t := ⟨_, List.getElem?_eq_getElem hlt⟩
        obtain ⟨b, hgb⟩ : ∃ t, l2[k]? = some t := ⟨_, List.getElem?_eq_getElem (by have := HL.out; omega)⟩
        have ca := hr1 _ _ hga
        have cb := hr2 _ _ hgb
        have hlt2 : k < l2.length := by have := HL.out; omega
        by_cases hab : a = b
        · have f0 : (a == b) = true := by simpa using hab
          have f1 : (a != b) = false := by simpa using hab
          have Htk := Lib.hid (take_eqI Ht.out hga (by rw [hgb, hab]))
          clear hr1 hr2 hc1 hc2 hga hgb hab
          go_wp2_with fail
          go_quiet (fail)
          go_wp2
          go_roundw
          case rel => exact ⟨k + 1, by omega, by go_num, Htk.out, nn + nq, rfl⟩
          case measure => simp [intOf]; omega
        · have f0 : (a == b) = false := by simpa using hab
          have f1 : (a != b) = true := by simpa using hab
          have Hfin := Lib.hid (show decide (l1 = l2) = false by
            have : ¬ l1 = l2 := fun e => by rw [e, hgb] at hga; exact hab (by simpa using hga.symm)
            simpa using this)
          clear hr1 hr2 hc1 hc2 hga hgb hab
          go_wp2_with fail
          go_quiet (fail)
          go_wp2
          go_ret
          exact ⟨ret_b Hfin.out.symm, nn + nq, by rw [World.drewN_drewN]⟩
      · have Hfin := Lib.hid (show decide (l1 = l2) = true by
          have h3 := Ht.out
          rw [List.take_of_length_le (by omega), List.take_of_length_le (by have := HL.out; omega)] at h3
          simpa using h3)
        go_wp2
        go_ret
        exact ⟨ret_b Hfin.out.symm, nn, rfl⟩
  · have hb : ((l1.length : Int) == (l2.length : Int)) = false := by simp; omega
    have hb2 : ((l1.length : Int) != (l2.length : Int)) = true := by simp; omega
    have Hfin := Lib.hid (show decide (l1 = l2) = false by
      have : ¬ l1 = l2 := fun e => hl (by rw [e])
      simpa using this)
    clear hl hf1 hf2
    go_enter Try.func23, Try.ntmps23
    go_wp2
    go_ret
    exact ⟨ret_b Hfin.out.symm, 0, rfl⟩

/-- What the search of a function ends with: the first place at which it says yes, or none. -/
def IdxPost (p : Nat → Bool) (n : Nat) (I J : Nat → World → Prop) (e : Ending) (w' : World) : Prop :=
  (∃ k : Nat, k < n ∧ p k = true ∧ (∀ j, j < k → p j = false) ∧ e = .returned (.int .i64 (k : Int)) ∧ J k w') ∨ ((∀ j, j < n → p j = false) ∧ e = .returned (.int .i64 (-1)) ∧ I n w')
set_option maxRecDepth 100000 in
set_option maxHeartbeats 2000000 in
theorem index_c (p : Nat → Bool) (f : FuncId) (caps : Array Value) (v : Value) (l : List Int) (w : World) (I J : Nat → World → Prop)
    (eg : ∀ args w, (callFunc f args).run Try.prog w = .ok (.enter f args) w)
    (hR : ∀ k w', I k w' → RI w' v l) (h0 : I 0 w)
    (hF : ∀ (k : Nat) (x : Int) (w1 : World), l[k]? = some x → Fit x → I k w1 → Calls Try.prog f (#[.int .i64 x] ++ caps) w1 fun e w' => e = .returned (.bool (p k)) ∧ (if p k = true then J k w' else I (k + 1) w')) :
    Calls Try.prog 67 #[v, .func (.func f) #[] caps] w (IdxPost p l.length I J) := by
  obtain ⟨A, cap, rfl, hm, hf, _⟩ := hR 0 w h0
  have HF := Lib.hid hF; have HR := Lib.hid hR; have H0 := Lib.hid h0; have Hf := Lib.hid hf
  clear hF hR h0 hf
  go_enter Try.func67, Try.ntmps67
  go_wp2_with fail
  go_loopw [8] (fun x wr => ∃ k : Nat, k ≤ l.length ∧ x = .int .i64 (k : Int) ∧ (∀ j, j < k → p j = false) ∧ I k wr) (fun x _ => l.length - (intOf x).toNat)
  case atStart => exact ⟨0, by omega, rfl, fun j hj => by omega, H0.out⟩
  case round =>
    obtain ⟨k, hk, rfl, hp, hI⟩ := hrel
    have HI := Lib.hid hI; have HP := Lib.hid hp
    clear hI hp
    by_cases hlt : k < l.length
    · obtain ⟨A', c', he, _, _, hc⟩ := HR.out k wr HI.out
      obtain ⟨rfl, rfl⟩ : A = A' ∧ cap = c' := by simpa using he
      obtain ⟨b, o, rfl, hr⟩ := hc (by omega)
      obtain ⟨x, hx⟩ : ∃ t, l[k]? = some t := ⟨_, List.getElem?_eq_getElem hlt⟩
      have hcell := hr _ _ hx
      have HX := Lib.hid hx
      clear hc hr he hx
      rcases hpk : p k with _ | _
      · have Hpk := Lib.hid hpk; clear hpk
        go_wp2_with fail
        refine (HF.out k x _ HX.out (Hf.out x (List.mem_of_getElem? HX.out)) HI.out).mono ?_
        rw [Hpk.out]
        rintro e w' ⟨rfl, hI⟩
        rw [if_neg (by decide)] at hI
        have HI2 := Lib.hid hI; clear hI
        go_wp2
        go_roundw
        case rel => exact ⟨k + 1, by omega, by go_num, fun j hj => by
                      rcases Nat.lt_or_ge j k with h | h
                      · exact HP.out j h
                      · have : j = k := by omega
                        rw [this]; exact Hpk.out, HI2.out⟩
        case measure => simp [intOf]; omega
      · have Hpk := Lib.hid hpk; clear hpk
        go_wp2_with fail
        refine (HF.out k x _ HX.out (Hf.out x (List.mem_of_getElem? HX.out)) HI.out).mono ?_
        rw [Hpk.out]
        rintro e w' ⟨rfl, hI⟩
        rw [if_pos rfl] at hI
        have HI2 := Lib.hid hI; clear hI
        go_wp2
        go_ret
        exact Or.inl ⟨k, hlt, Hpk.out, HP.out, rfl, HI2.out⟩
    · obtain rfl : k = l.length := by omega
      go_wp2
      go_ret
      exact Or.inr ⟨HP.out, rfl, HI.out⟩
/-- What ContainsFunc ends with. -/
def ConPost (p : Nat → Bool) (n : Nat) (I J : Nat → World → Prop) (e : Ending) (w' : World) : Prop :=
  e = .returned (.bool ((List.range n).any p)) ∧ (((List.range n).any p = true ∧ ∃ k, k < n ∧ J k w') ∨ ((List.range n).any p = false ∧ I n w'))
theorem any_t {p : Nat → Bool} {n k : Nat} (hk : k < n) (h : p k = true) : (List.range n).any p = true := by
  rw [List.any_eq_true]; exact ⟨k, List.mem_range.2 hk, h⟩
theorem any_f {p : Nat → Bool} {n : Nat} (h : ∀ j, j < n → p j = false) : (List.range n).any p = false := by
  rw [List.any_eq_false]; intro k hk; rw [h k (List.mem_range.1 hk)]; decide
theorem contains_c (p : Nat → Bool) (f : FuncId) (caps : Array Value) (v : Value) (l : List Int) (w : World) (I J : Nat → World → Prop)
    (eg : ∀ args w, (callFunc f args).run Try.prog w = .ok (.enter f args) w)
    (hR : ∀ k w', I k w' → RI w' v l) (h0 : I 0 w)
    (hF : ∀ (k : Nat) (x : Int) (w1 : World), l[k]? = some x → Fit x → I k w1 → Calls Try.prog f (#[.int .i64 x] ++ caps) w1 fun e w' => e = .returned (.bool (p k)) ∧ (if p k = true then J k w' else I (k + 1) w')) :
    Calls Try.prog 47 #[v, .func (.func f) #[] caps] w (ConPost p l.length I J) := by
  have H := Lib.hid (index_c p f caps v l w I J eg hR h0 hF)
  have hl := (hR 0 w h0).len
  clear hR h0 hF eg
  go_enter Try.func47, Try.ntmps47
  go_wp2_with fail
  refine H.out.mono ?_
  rintro e w' (⟨k, hk, hp, hj, rfl, hJ⟩ | ⟨hj, rfl, hI⟩)
  · have HF := Lib.hid (any_t hk hp); have HJ := Lib.hid hJ; have Hk := Lib.hid hk
    clear hp hj hJ hk
    go_wp2
    go_ret
    exact ⟨ret_b (by rw [HF.out]), Or.inl ⟨HF.out, k, Hk.out, HJ.out⟩⟩
  · have HF := Lib.hid (any_f hj); have HI := Lib.hid hI
    clear hj hI
    go_wp2
    go_ret
    exact ⟨ret_b (by rw [HF.out]), Or.inr ⟨HF.out, HI.out⟩⟩
theorem eg48 : ∀ args w, (callFunc 48 args).run Try.prog w = .ok (.enter 48 args) w := enters_of Try.func48 (by kernel_rfl) rfl
theorem any_range {l : List Int} {q : Int → Bool} : (List.range l.length).any (fun k => q (l.getD k 0)) = l.any q := by
  rw [Bool.eq_iff_iff, List.any_eq_true, List.any_eq_true]
  constructor
  · rintro ⟨k, hk, h⟩
    have hk := List.mem_range.1 hk
    rw [List.getD_eq_getElem?_getD, List.getElem?_eq_getElem hk] at h
    exact ⟨_, List.getElem_mem hk, h⟩
  · rintro ⟨x, hx, h⟩
    obtain ⟨k, hk, rfl⟩ := List.getElem_of_mem hx
    exact ⟨k, List.mem_range.2 hk, by rw [List.getD_eq_getElem?_getD, List.getElem?_eq_getElem hk]; exact h⟩
/-- Whether a stride is too far from 0. -/
theorem anyFar_c (v : Value) (l : List Int) (w : World) (h : RI w v l) : Calls Try.prog 47 #[v, .func (.func 48) #[] #[]] w fun e w' => e = .returned (.bool (!l.all nearB)) ∧ w = w' := by
  refine (contains_c (fun k => !nearB (l.getD k 0)) 48 #[] v l w (fun _ w' => w = w') (fun _ w' => w = w') eg48 (fun _ w' e => by subst e; exact h) rfl (fun k x w1 hx hf e => ?_)).mono ?_
  · subst e
    refine (isFar_c x w).mono ?_
    rintro e w' ⟨rfl, rfl⟩
    rw [List.getD_eq_getElem?_getD, hx]
    refine ⟨rfl, ?_⟩
    split <;> rfl
  · rintro e w' ⟨rfl, h⟩
    refine ⟨ret_b ?_, ?_⟩
    · rw [any_range (q := fun x => !nearB x), List.all_eq_not_any_not, Bool.not_not]
    · rcases h with ⟨_, _, _, h⟩ | ⟨_, h⟩ <;> exact h
end Go.Proofs.Ytkgdnlknnjiglaa

/- Regions that draw their order and end in stores: what is held need hold only until the first of two given operations (the stores) has come up. -/
import Derived.Test.YtkgdnlknnjiglaaSecTf
import Derived.Deep.RegionHeld3
namespace Go.Proofs.Ytkgdnlknnjiglaa
open Go Go.RowKit

section
variable {P : Program} {ops : Array Oper} {Q : Exit → Act → World → Prop} {md : Region.Mode} {S : World → Prop} {m1 m2 : Nat}
/-- S holds as long as neither of the two has come up. -/
def SL (S : World → Prop) (m1 m2 : Nat) (listed : Array Bool) (w : World) : Prop := listed.getD m1 true = false → listed.getD m2 true = false → S w
def wpAnyL (P : Program) (md : Region.Mode) (ops : Array Oper) (Q : Exit → Act → World → Prop) (S : World → Prop) (m1 m2 : Nat) : Nat → Array Bool → Act → World → Prop
  | 0, listed, a, w => Region.ready md ops listed = [] ∧ Q .normal a w
  | fuel + 1, listed, a, w =>
    (Region.ready md ops listed = [] → Q .normal a w) ∧
    ∀ i ∈ Region.ready md ops listed, wpOp P ops Q i (fun a' w' => SL S m1 m2 (listed.setIfInBounds i true) w' ∧ wpAnyL P md ops Q S m1 m2 fuel (listed.setIfInBounds i true) a' w') a w
theorem wpAny_of_L : ∀ (fuel : Nat) (listed : Array Bool) (a : Act) (w : World), wpAnyL P md ops Q S m1 m2 fuel listed a w → wpAny P md ops Q fuel listed a w
  | 0, _, _, _, h => h
  | fuel + 1, _, _, _, h => ⟨h.1, fun i hi => wpOp_mono (fun a' w' h' => wpAny_of_L fuel _ a' w' h'.2) (h.2 i hi)⟩
/-- Number m waits for number i. -/
def waitsFor (md : Region.Mode) (ops : Array Oper) (m i : Nat) : Bool := match ops[m]? with
  | some o => o.after.any fun e => Region.binds md e && decide (e.on = i)
  | none => false
theorem waits_spec {m i : Nat} {o : Oper} (h : waitsFor md ops m i = true) (ho : ops[m]? = some o) (hno : ∀ e ∈ o.after, Region.binds md e = true → e.on ≠ i) : False := by
  unfold waitsFor at h
  rw [ho] at h
  obtain ⟨e, he, h2⟩ := Array.any_eq_true'.1 h
  simp only [Bool.and_eq_true, decide_eq_true_eq] at h2
  exact hno e he h2.1 h2.2
theorem getD_far {l : Array Bool} {j m : Nat} (hjm : j ≠ m) (h : l.getD m true = false) : (l.setIfInBounds j true).getD m true = false := by
  rw [Array.getD_eq_getD_getElem?] at h ⊢
  rw [Array.getElem?_setIfInBounds, if_neg hjm]
  exact h
/-- Each number of C but i waits for one of C. -/
def chained (md : Region.Mode) (ops : Array Oper) (C : List Nat) (i : Nat) : Bool := C.all fun c => decide (c = i) || C.any fun c' => waitsFor md ops c c'
theorem not_ready {C : List Nat} {i j : Nat} {listed : Array Bool} (hc : chained md ops C i = true) (hl : ∀ c ∈ C, listed.getD c true = false) (hj : j ∈ Region.ready md ops listed) (hji : j ≠ i) : j ∉ C := fun hm => by
  have h1 := List.all_eq_true.1 hc j hm
  simp only [Bool.or_eq_true, decide_eq_true_eq] at h1
  rcases h1 with h1 | h1
  · exact hji h1
  · obtain ⟨c', hc', hw⟩ := List.any_eq_true.1 h1
    obtain ⟨hjun, oj, hoj, hall⟩ := mem_ready.1 hj
    refine waits_spec hw hoj fun e he hb heq => ?_
    have h3 := hall e he hb
    have h0 := hl c' hc'
    rw [heq] at h3
    rcases Nat.lt_or_ge c' listed.size with h' | h'
    · simp [h'] at h0 h3; rw [h0] at h3; cases h3
    · simp [Array.getElem?_eq_none h'] at h0
theorem wpAnyL_first {i : Nat} {oi : Oper} {v : Value} (C : List Nat) (hi : ops[i]? = some oi) (hsel : ∀ (j : Nat) (o : Oper) cs b, ops[j]? = some o → o.op ≠ .select cs b)
    (hQ : ∀ c a w, Q (.panic c) (a.put oi.dst v) w → Q (.panic c) a w) (hc : chained md ops C i = true) (h1C : m1 ∈ C) (h2C : m2 ∈ C) (hi1 : i ≠ m1) (hi2 : i ≠ m2) :
    ∀ (fuel : Nat) (listed : Array Bool) (a : Act) (w : World),
      (∀ j oj, ops[j]? = some oj → j ≠ i → listed.getD j true = false → (∀ e ∈ oj.after, Region.binds md e = true → e.on ≠ i) → oi.apart ops oj = true) →
      i ∈ Region.ready md ops listed → YieldsIf P ops S oi v a → (∀ c ∈ C, listed.getD c true = false) → S w →
      wpAnyL P md ops Q S m1 m2 fuel (listed.setIfInBounds i true) (a.put oi.dst v) w → wpAnyL P md ops Q S m1 m2 (fuel + 1) listed a w := by
  intro fuel
  induction fuel with
  | zero =>
    intro listed a w _ hr hy _ hS H
    refine ⟨fun h => (by rw [h] at hr; cases hr), fun j hj => ?_⟩
    by_cases hji : j = i
    · subst hji; exact hy.wpOp hi hS ⟨fun _ _ => hS, H⟩
    · have := ready_mono hj hji
      rw [H.1] at this
      cases this
  | succ fuel ih =>
    intro listed a w hfree hr hy hl hS H
    refine ⟨fun h => (by rw [h] at hr; cases hr), fun j hj => ?_⟩
    by_cases hji : j = i
    · subst hji; exact hy.wpOp hi hS ⟨fun _ _ => hS, H⟩
    · have h1 := H.2 j (ready_mono hj hji)
      obtain ⟨hjun, oj, hoj, hall⟩ := mem_ready.1 hj
      have hnot : ∀ e ∈ oj.after, Region.binds md e = true → e.on ≠ i := fun e he hb heq => by
        have h1 := hall e he hb
        have h0 := (mem_ready.1 hr).1
        rw [heq] at h1
        rcases Nat.lt_or_ge i listed.size with h' | h'
        · simp [h'] at h0 h1; rw [h0] at h1; cases h1
        · simp [Array.getElem?_eq_none h'] at h1
      have h2 := wpOp_putIf hoj (hfree j oj hoj hji hjun hnot) (fun cs b => hsel i oi cs b hi) (fun cs b => hsel j oj cs b hoj) hQ hy h1
      have hfree' : ∀ k ok, ops[k]? = some ok → k ≠ i → (listed.setIfInBounds j true).getD k true = false →
          (∀ e ∈ ok.after, Region.binds md e = true → e.on ≠ i) → oi.apart ops ok = true := fun k ok hk hki hun hno => by
        refine hfree k ok hk hki ?_ hno
        by_cases hjk : j = k
        · subst hjk; exact hjun
        · rw [getD_set_ne true hjk] at hun; exact hun
      have hjC := not_ready hc hl hj hji
      have hl' : ∀ c ∈ C, (listed.setIfInBounds j true).getD c true = false := fun c hcm => getD_far (fun e => hjC (e ▸ hcm)) (hl c hcm)
      refine wpOp_mono (fun a' w' h3 => ?_) h2
      have hS' : S w' := h3.2.1 (by rw [Array.setIfInBounds_comm _ _ (Ne.symm hji)]; exact getD_far hi1 (hl' _ h1C)) (by rw [Array.setIfInBounds_comm _ _ (Ne.symm hji)]; exact getD_far hi2 (hl' _ h2C))
      refine ⟨fun _ _ => hS', ih (listed.setIfInBounds j true) a' w' hfree' (ready_mono hr (Ne.symm hji)) h3.1 hl' hS' ?_⟩
      rw [Array.setIfInBounds_comm _ _ hji]
      exact h3.2.2
theorem wpAnyL_take (C : List Nat) {i : Nat} {oi : Oper} {v : Value} {fuel : Nat} {listed : Array Bool} {a : Act} {w : World} (hi : ops[i]? = some oi)
    (hs : Region.noSelect ops = true) (hf : Region.free md ops listed i = true) (hr : (Region.ready md ops listed).contains i = true)
    (hw : (chained md ops C i && (C.contains m1 && C.contains m2 && (!decide (i = m1) && !decide (i = m2))) && C.all fun c => !listed.getD c true) = true)
    (hQ : ∀ c a w, Q (.panic c) (a.put oi.dst v) w → Q (.panic c) a w) (hy : YieldsIf P ops S oi v a) (hS : S w)
    (h : wpAnyL P md ops Q S m1 m2 fuel (listed.setIfInBounds i true) (a.put oi.dst v) w) : wpAnyL P md ops Q S m1 m2 (fuel + 1) listed a w := by
  simp only [Bool.and_eq_true, Bool.not_eq_true', decide_eq_false_iff_not, List.contains_iff_mem] at hw
  refine wpAnyL_first C hi (Region.noSelect_spec hs) hQ hw.1.1 hw.1.2.1.1 hw.1.2.1.2 hw.1.2.2.1 hw.1.2.2.2 fuel listed a w (Region.free_spec hi hf) (by simpa using hr) hy (fun c hc => ?_) hS h
  have := List.all_eq_true.1 hw.2 c hc
  simpa using this
def AllReadyL (P : Program) (md : Region.Mode) (ops : Array Oper) (Q : Exit → Act → World → Prop) (S : World → Prop) (m1 m2 : Nat) (fuel : Nat) (listed : Array Bool) (a : Act) (w : World) (rs : List Nat) : Prop :=
  ∀ i ∈ rs, wpOp P ops Q i (fun a' w' => SL S m1 m2 (listed.setIfInBounds i true) w' ∧ wpAnyL P md ops Q S m1 m2 fuel (listed.setIfInBounds i true) a' w') a w
theorem AllReadyL.nil {fuel : Nat} {listed : Array Bool} {a : Act} {w : World} : AllReadyL P md ops Q S m1 m2 fuel listed a w [] := fun _ h => by cases h
theorem AllReadyL.cons {fuel : Nat} {listed : Array Bool} {a : Act} {w : World} {i : Nat} {o : Oper} {rs : List Nat} (ho : ops[i]? = some o)
    (h : ∀ K' : Act → World → Prop, Shut (∀ a w, SL S m1 m2 (listed.setIfInBounds i true) w → wpAnyL P md ops Q S m1 m2 fuel (listed.setIfInBounds i true) a w → K' a w) → if Region.wanted o (yielded ops a.tmps) = true then Oper.wp P o a w K' Q else K' (a.put o.dst undef) w)
    (hs : AllReadyL P md ops Q S m1 m2 fuel listed a w rs) : AllReadyL P md ops Q S m1 m2 fuel listed a w (i :: rs) := fun j hj => by
  rcases List.mem_cons.1 hj with rfl | hj
  · exact wpOp_step ho (fun K' hK => h K' (fun a w hS hW => hK a w ⟨hS, hW⟩))
  · exact hs j hj
theorem wpAnyL_ready {rs : List Nat} {fuel : Nat} {listed : Array Bool} {a : Act} {w : World} (hr : Region.ready md ops listed = rs) (hne : rs ≠ [])
    (h : AllReadyL P md ops Q S m1 m2 fuel listed a w rs) : wpAnyL P md ops Q S m1 m2 (fuel + 1) listed a w := ⟨fun h0 => absurd (hr ▸ h0) hne, hr ▸ h⟩
theorem wpAnyL_done {listed : Array Bool} {a : Act} {w : World} (hr : Region.ready md ops listed = []) (h : Q .normal a w) :
    ∀ fuel, wpAnyL P md ops Q S m1 m2 fuel listed a w
  | 0 => ⟨hr, h⟩
  | _ + 1 => ⟨fun _ => h, by rw [hr]; simp⟩
theorem wp_region_L (S : World → Prop) (m1 m2 : Nat) {id : Nat} {a : Act} {w : World} (hm : P.follows .mixedOrders = true)
    (h : wpAnyL P .any ops Q S m1 m2 ops.size (Array.replicate ops.size false) a w.drew) : (Code.region id ops true).wp P Q a w :=
  wp_region_any hm (wpAny_of_L _ _ _ _ h)
end
end Go.Proofs.Ytkgdnlknnjiglaa

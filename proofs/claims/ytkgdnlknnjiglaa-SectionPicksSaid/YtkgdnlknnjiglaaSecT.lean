/- Contract of Next. -/
import Derived.Test.YtkgdnlknnjiglaaSecS
namespace Go.Proofs.Ytkgdnlknnjiglaa
open Go.RowKit

/-- What Next leaves: the slice's own block, and nothing else that was there. -/
def NPost (w0 w : World) (vs : Value) (E S : List Int) (e : Ending) (w' : World) : Prop :=
  e = .returned (.bool (nextB E S)) ∧ OI w' w0.heap.size vs (nextS E S) ∧ KB w w' (fun k => vs.ownBlock = some k)
theorem KB.same {w w' : World} {S : Nat → Prop} (h : Below w.heap.size w w') : KB w w' S := KB.of_below S h (Nat.le_refl _)
theorem inR_bad {E S : List Int} {k : Nat} {x y : Int} (h1 : S[k]? = some x) (h2 : E[k]? = some y) (h : subB x y = false) : inR S E = false := by
  rw [Bool.eq_false_iff]; intro h3
  have := (inR_iff.1 h3).2 k x y h1 h2
  rw [h] at this; cases this
/-- What the first loop of Next has found. -/
def FRel (E S : List Int) (k : Nat) (f : Int) : Prop :=
  (f = -1 ∧ ∀ (j : Nat) (x y : Int), j < k → S[j]? = some x → E[j]? = some y → ¬ x + 1 < y) ∨ (∃ m : Nat, f = m ∧ m < k ∧ frN S E = m)
theorem OI.clear {w : World} {B n cz : Nat} {Z : Option Addr} {S : List Int} (h : OI w B (.slice Z S.length cz) S) (hn : n ≤ S.length) :
    ∃ w', (∀ ty, (Builtin.clear_ #[29] ty #[.slice Z n cz]).run Try.prog w = .ok (.tuple #[]) w') ∧ OI w' B (.slice Z S.length cz) (upto0 S n) ∧ KB w w' (fun k => (Value.slice Z S.length cz).ownBlock = some k) := by
  obtain ⟨A, cap, e, hm, hf, hc⟩ := h
  obtain ⟨rfl, rfl⟩ : Z = A ∧ cz = cap := by simpa using e
  have hfit : ∀ x ∈ upto0 S n, Fit x := by
    intro x hx
    unfold upto0 zeros at hx
    rcases List.mem_append.1 hx with hx | hx
    · rw [(List.mem_replicate.1 hx).2]; exact fit0
    · exact hf x (List.mem_of_mem_drop hx)
  by_cases h0 : 0 < S.length
  · obtain ⟨b, rfl, hb, hh⟩ := hc h0
    exact ⟨_, fun ty => run_clear w ty b n cz S hh hn, ⟨_, cz, by rw [upto0_len hn], by rw [upto0_len hn]; exact hm, hfit, fun _ => ⟨b, rfl, hb, has_clear hh hn⟩⟩, KB.setCells (by simp [Value.ownBlock]) _ _ _⟩
  · obtain rfl : n = 0 := by omega
    have hS : S = [] := List.eq_nil_of_length_eq_zero (by omega)
    subst hS
    refine ⟨w, fun ty => ?_, ⟨_, cz, rfl, hm, hfit, fun h => absurd h (by simp [upto0, zeros])⟩, KB.refl _ _⟩
    cases Z <;> simp [Builtin.clear_, run_underlying Try.underlying29]
theorem OI.bump {w : World} {B k cz : Nat} {Z : Option Addr} {S : List Int} {s : Int} (h : OI w B (.slice Z S.length cz) (upto0 S k)) (hs : S[k]? = some s) (hf : Fit (s + 1)) :
    ∃ b, Z = some ⟨b, 0, none⟩ ∧ w.cell? ⟨b, k, none⟩ = some (.int .i64 s) ∧ w.frozen? ⟨b, k, none⟩ = false ∧ OI (w.setCell ⟨b, k, none⟩ (.int .i64 (s + 1))) B (.slice Z S.length cz) (bump S k) := by
  have hk := (List.getElem?_eq_some_iff.1 hs).1
  obtain ⟨A, cap, e, hm, hfi, hc⟩ := h
  have hl : (upto0 S k).length = S.length := upto0_len (by omega)
  rw [hl] at e hm hc
  obtain ⟨rfl, rfl⟩ : Z = A ∧ cz = cap := by simpa using e
  obtain ⟨b, rfl, hb, hh⟩ := hc (by omega)
  have h1 := hh k _ (icells_at ((upto0_at (Nat.le_refl k)).trans hs))
  refine ⟨b, rfl, h1.1, h1.2, _, cz, by rw [bump_len hk], by rw [bump_len hk]; exact hm, ?_, fun _ => ⟨b, rfl, hb, ?_⟩⟩
  · intro x hx
    rw [← upto0_bump hs] at hx
    rcases List.mem_or_eq_of_mem_set hx with hx | hx
    · exact hfi x hx
    · rw [hx]; exact hf
  · rw [← upto0_bump hs, icells_set]
    exact hh.set
set_option maxRecDepth 100000 in
set_option maxHeartbeats 4000000 in
theorem Next_c (w0 w : World) (ve vs : Value) (E S : List Int) (he : RI w0 ve E) (hB : Below w0.heap.size w0 w) (hS : OI w w0.heap.size vs S) (hcap : ∀ A n c, vs = .slice A n c → n ≤ c) :
    Calls Try.prog 41 #[ve, vs] w (NPost w0 w vs E S) := by
  have HE := Lib.hid (he.keep hB); have HS := Lib.hid hS
  have hmz := hS.ri.len
  obtain ⟨A, ce, rfl⟩ := he.slice
  obtain ⟨Z, cz, rfl⟩ := hS.ri.slice
  have hcz := hcap _ _ _ rfl
  clear hcap
  have hme := he.len
  clear he hS
  by_cases hl : S.length = E.length
  rotate_left
  · have f0 : ((S.length : Int) == (E.length : Int)) = false := by simp; omega
    have f1 : ((S.length : Int) != (E.length : Int)) = true := by simp; omega
    have HX := Lib.hid (next_no (show inR S E = false by rw [Bool.eq_false_iff]; intro h; exact hl (inR_iff.1 h).1))
    clear hl
    go_enter Try.func41, Try.ntmps41
    go_wp2
    go_ret
    exact ⟨ret_b HX.out.1.symm, by rw [HX.out.2]; exact HS.out, KB.refl _ _⟩
  have f0 : ((S.length : Int) == (E.length : Int)) = true := by simp; omega
  have f1 : ((S.length : Int) != (E.length : Int)) = false := by simp; omega
  have HL := Lib.hid hl
  clear hl
  go_enter Try.func41, Try.ntmps41
  go_wp2_with fail
  go_loop [5, 15] (fun y x => ∃ (k : Nat) (f : Int), k ≤ S.length ∧ x = .int .i64 (k : Int) ∧ y = .int .i64 f ∧ FRel E S k f ∧ (∀ (j : Nat) (x y : Int), j < k → S[j]? = some x → E[j]? = some y → subB x y = true) ∧ -1 ≤ f ∧ f < k) (fun _ x => S.length - (intOf x).toNat)
  case atStart => exact ⟨0, -1, Nat.zero_le _, rfl, rfl, Or.inl ⟨rfl, fun j _ _ hj => by omega⟩, fun j _ _ hj => by omega, by omega, by omega⟩
  case round =>
    obtain ⟨k, f, hk, rfl, rfl, hF, hin, hf1, hf2⟩ := hrel
    have HF := Lib.hid hF; have HIN := Lib.hid hin
    clear hF hin
    by_cases hlt : k < S.length
    · obtain ⟨b3, o3, c3, s, e3, hs, m3⟩ := HS.out.ri.at_ hlt
      obtain ⟨rfl, rfl⟩ : Z = some ⟨b3, o3, none⟩ ∧ cz = c3 := by simpa using e3
      obtain ⟨b4, o4, c4, ev, e4, hev, m4⟩ := HE.out.at_ (k := k) (by have := HL.out; omega)
      obtain ⟨rfl, rfl⟩ : A = some ⟨b4, o4, none⟩ ∧ ce = c4 := by simpa using e4
      have hlE : k < E.length := by have := HL.out; omega
      have hfe := HE.out.fit ev (List.mem_of_getElem? hev)
      have HSK := Lib.hid hs; have HEK := Lib.hid hev
      have HC := Lib.hid (fun w => isSub_c s ev w)
      clear e3 e4 hs hev
      rcases hsb : subB s ev with _ | _
      · rw [hsb] at HC
        have HX := Lib.hid (next_no (inR_bad HSK.out HEK.out hsb))
        clear hsb
        go_wp2_with fail
        refine (HC.out _).mono ?_
        rintro e w2 ⟨rfl, rfl⟩
        go_wp2
        go_ret
        exact ⟨ret_b HX.out.1.symm, by rw [HX.out.2]; exact HS.out, KB.refl _ _⟩
      · rw [hsb] at HC
        have HIN2 := Lib.hid (show ∀ (j : Nat) (x y : Int), j < k + 1 → S[j]? = some x → E[j]? = some y → subB x y = true by
          intro j x y hj hx hy
          rcases Nat.lt_or_ge j k with h | h
          · exact HIN.out j x y h hx hy
          · obtain rfl : j = k := by omega
            rw [HSK.out] at hx; rw [HEK.out] at hy
            simp at hx hy; subst hx; subst hy; exact hsb)
        have hsb2 := sub_iff.1 hsb
        unfold Fit at hfe
        clear hsb
        by_cases hf0 : f < 0
        · by_cases hse : s < ev - 1
          · have HF2 := Lib.hid (show FRel E S (k + 1) (k : Int) by
              refine Or.inr ⟨k, rfl, by omega, ?_⟩
              rcases HF.out with ⟨_, h⟩ | ⟨m, h, _, _⟩
              · exact frN_at S E k s ev HSK.out HEK.out (by omega) h
              · omega)
            go_wp2_with fail
            refine (HC.out _).mono ?_
            rintro e w2 ⟨rfl, rfl⟩
            go_wp2
            go_round
            case rel => exact ⟨k + 1, k, by omega, by go_num, rfl, HF2.out, HIN2.out, by omega, by omega⟩
            case measure => simp [intOf]; omega
          · have HF2 := Lib.hid (show FRel E S (k + 1) f by
              rcases HF.out with ⟨h0, h⟩ | ⟨m, h, _, _⟩
              · refine Or.inl ⟨h0, fun j x y hj hx hy => ?_⟩
                rcases Nat.lt_or_ge j k with h1 | h1
                · exact h j x y h1 hx hy
                · obtain rfl : j = k := by omega
                  rw [HSK.out] at hx; rw [HEK.out] at hy
                  simp at hx hy; subst hx; subst hy; omega
              · omega)
            go_wp2_with fail
            refine (HC.out _).mono ?_
            rintro e w2 ⟨rfl, rfl⟩
            go_wp2
            go_round
            case rel => exact ⟨k + 1, f, by omega, by go_num, rfl, HF2.out, HIN2.out, by omega, by omega⟩
            case measure => simp [intOf]; omega
        · have HF2 := Lib.hid (show FRel E S (k + 1) f by
            rcases HF.out with ⟨h0, h⟩ | ⟨m, h, h1, h2⟩
            · omega
            · exact Or.inr ⟨m, h, by omega, h2⟩)
          go_wp2_with fail
          refine (HC.out _).mono ?_
          rintro e w2 ⟨rfl, rfl⟩
          go_wp2
          go_round
          case rel => exact ⟨k + 1, f, by omega, by go_num, rfl, HF2.out, HIN2.out, by omega, by omega⟩
          case measure => simp [intOf]; omega
    · obtain rfl : k = S.length := by omega
      have HIR := Lib.hid (show inR S E = true from inR_iff.2 ⟨HL.out, fun j x y hx hy => HIN.out j x y (List.getElem?_eq_some_iff.1 hx).1 hx hy⟩)
      by_cases hf0 : f < 0
      · have HX := Lib.hid (next_end HIR.out (show frN S E = S.length by
          rcases HF.out with ⟨_, h⟩ | ⟨m, h, _, _⟩
          · exact frN_none S E HL.out (fun j x y hx hy => h j x y (List.getElem?_eq_some_iff.1 hx).1 hx hy)
          · omega))
        obtain ⟨w2, hclr, ho2, hk2⟩ := HS.out.clear (Nat.le_refl _)
        rw [upto0_all] at ho2
        have HO2 := Lib.hid ho2; have HK2 := Lib.hid hk2
        clear ho2 hk2
        go_wp2
        go_ret
        exact ⟨ret_b HX.out.1.symm, by rw [HX.out.2]; exact HO2.out, HK2.out⟩
      · obtain ⟨m, rfl, hm1, hm2⟩ : ∃ m : Nat, f = m ∧ m < S.length ∧ frN S E = m := by
          rcases HF.out with ⟨h, _⟩ | ⟨m, h1, h2, h3⟩
          · omega
          · exact ⟨m, h1, h2, h3⟩
        have HX := Lib.hid (next_yes HIR.out (show frN S E < S.length by omega))
        rw [hm2] at HX
        obtain ⟨s, hs⟩ : ∃ s, S[m]? = some s := ⟨_, List.getElem?_eq_getElem hm1⟩
        have hfs := HS.out.ri.fit s (List.mem_of_getElem? hs)
        have hsm : s + 1 ≤ 9223372036854775807 := by
          obtain ⟨e, he⟩ : ∃ e, E[m]? = some e := ⟨_, List.getElem?_eq_getElem (by have := HL.out; omega)⟩
          have h1 := sub_iff.1 (HIN.out m s e (by omega) hs he)
          have h2 := HE.out.fit e (List.mem_of_getElem? he)
          unfold Fit at h2; omega
        unfold Fit at hfs
        obtain ⟨w2, hclr, ho2, hk2⟩ := HS.out.clear (n := m) (by omega)
        obtain ⟨b, rfl, q1, q2, ho3⟩ := ho2.bump hs (by unfold Fit; omega)
        have HO3 := Lib.hid ho3; have HK2 := Lib.hid hk2
        clear ho2 ho3 hk2 hm2 hs
        go_wp2
        go_ret
        exact ⟨ret_b HX.out.1.symm, by rw [HX.out.2]; exact HO3.out, HK2.out.trans (KB.set _ (by simp [Value.ownBlock]))⟩
end Go.Proofs.Ytkgdnlknnjiglaa

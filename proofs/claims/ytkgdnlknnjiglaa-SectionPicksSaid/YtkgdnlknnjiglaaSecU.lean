/- Contract of the document's Next. -/
import Derived.Test.YtkgdnlknnjiglaaSecT
import Derived.Test.YtkgdnlknnjiglaaSecO
namespace Go.Proofs.Ytkgdnlknnjiglaa
open Go.RowKit

theorem KB.drewN {a b : World} {S : Nat → Prop} (h : KB a b S) (n : Nat) : KB a (b.drewN n) S := by
  induction n with
  | zero => exact h
  | succ n ih => exact ⟨ih.os, ih.tape, ih.output, ih.size, ih.block⟩
theorem OI.drewN {w : World} {B : Nat} {v : Value} {l : List Int} (h : OI w B v l) (n : Nat) : OI (w.drewN n) B v l := h
theorem bump_at {S : List Int} {k : Nat} {s : Int} (h : S[k]? = some s) : (bump S k)[k]? = some (s + 1) := by
  have hk := (List.getElem?_eq_some_iff.1 h).1
  rw [← upto0_bump h, List.getElem?_set_self (by rw [upto0_len (by omega)]; exact hk)]
theorem oi_zero {w : World} {B k cz b : Nat} {S : List Int} {s : Int} (h : OI w B (.slice (some ⟨b, 0, none⟩) S.length cz) (bump S k)) (hs : S[k]? = some s) :
    B ≤ b ∧ w.cell? ⟨b, k, none⟩ = some (.int .i64 (s + 1)) ∧ w.frozen? ⟨b, k, none⟩ = false ∧ OI (w.setCell ⟨b, k, none⟩ (.int .i64 0)) B (.slice (some ⟨b, 0, none⟩) S.length cz) (upto0 S (k + 1)) := by
  have hk := (List.getElem?_eq_some_iff.1 hs).1
  obtain ⟨A, cap, e, hm, hfi, hc⟩ := h
  rw [bump_len hk] at e hm hc
  obtain ⟨rfl, rfl⟩ : some ⟨b, 0, none⟩ = A ∧ cz = cap := by simpa using e
  obtain ⟨b', e', hb, hh⟩ := hc (by omega)
  obtain rfl : b = b' := by simpa using e'
  have h1 := hh k _ (icells_at (bump_at hs))
  have e2 : (bump S k).set k 0 = upto0 S (k + 1) := by rw [← upto0_bump hs, List.set_set, upto0_set hk]
  refine ⟨hb, h1.1, h1.2, _, cz, by rw [upto0_len (by omega)], by rw [upto0_len (by omega)]; exact hm, ?_, fun _ => ⟨b, rfl, hb, ?_⟩⟩
  · intro x hx
    rw [← e2] at hx
    rcases List.mem_or_eq_of_mem_set hx with hx | hx
    · exact hfi x hx
    · rw [hx]; exact fit0
  · rw [← e2, icells_set]
    exact hh.set
set_option maxRecDepth 100000 in
set_option maxHeartbeats 4000000 in
theorem rNext_c (w0 w : World) (ve vs : Value) (E S : List Int) (he : RI w0 ve E) (hB : Below w0.heap.size w0 w) (hS : OI w w0.heap.size vs S) :
    Calls Try.prog 42 #[ve, vs] w (NPost w0 w vs E S) := by
  have HE := Lib.hid (he.keep hB); have HS := Lib.hid hS; have HE0 := Lib.hid he; have HBW := Lib.hid hB
  have hmz := hS.ri.len
  obtain ⟨A, ce, rfl⟩ := he.slice
  obtain ⟨Z, cz, rfl⟩ := hS.ri.slice
  have hme := he.len
  clear he hS hB
  by_cases hl : S.length = E.length
  rotate_left
  · have f0 : ((S.length : Int) == (E.length : Int)) = false := by simp; omega
    have f1 : ((S.length : Int) != (E.length : Int)) = true := by simp; omega
    have f2 : ((E.length : Int) == (S.length : Int)) = false := by simp; omega
    have f3 : ((E.length : Int) != (S.length : Int)) = true := by simp; omega
    have HX := Lib.hid (next_no (show inR S E = false by rw [Bool.eq_false_iff]; intro h; exact hl (inR_iff.1 h).1))
    clear hl
    go_enter Try.func42, Try.ntmps42
    go_wp2
    go_ret
    exact ⟨ret_b HX.out.1.symm, by rw [HX.out.2]; exact HS.out, KB.refl _ _⟩
  have f2 : ((E.length : Int) == (S.length : Int)) = true := by simp; omega
  have f3 : ((E.length : Int) != (S.length : Int)) = false := by simp; omega
  have HL := Lib.hid hl
  clear hl
  go_enter Try.func42, Try.ntmps42
  go_wp2_with fail
  go_loopw [5] (fun x wr => ∃ k nn : Nat, k ≤ S.length ∧ x = .int .i64 (k : Int) ∧ (∀ (j : Nat) (x y : Int), j < k → S[j]? = some x → E[j]? = some y → subB x y = true) ∧ wr = w.drewN nn) (fun x _ => S.length - (intOf x).toNat)
  case atStart => exact ⟨0, 0, Nat.zero_le _, rfl, fun j _ _ hj => by omega, rfl⟩
  case round =>
    obtain ⟨k, nn, hk, rfl, hin, rfl⟩ := hrel
    have HIN := Lib.hid hin
    clear hin
    have hk0 : (0 : Int) ≤ (k : Int) := by omega
    by_cases hlt : k < S.length
    · obtain ⟨b3, o3, c3, s, e3, hs, m3⟩ := HS.out.ri.at_ hlt
      obtain ⟨rfl, rfl⟩ : Z = some ⟨b3, o3, none⟩ ∧ cz = c3 := by simpa using e3
      obtain ⟨b4, o4, c4, ev, e4, hev, m4⟩ := HE.out.at_ (k := k) (by have := HL.out; omega)
      obtain ⟨rfl, rfl⟩ : A = some ⟨b4, o4, none⟩ ∧ ce = c4 := by simpa using e4
      have hlE : k < E.length := by have := HL.out; omega
      have HSK := Lib.hid hs; have HEK := Lib.hid hev
      clear e3 e4 hs hev
      by_cases hs0 : s < 0
      · have HX := Lib.hid (next_no (inR_bad HSK.out HEK.out (by unfold subB; rw [decide_eq_false (show ¬ 0 ≤ s by omega)]; rfl)))
        go_wp2_with fail
        go_quiet (fail)
        go_wp2
        go_ret
        exact ⟨ret_b HX.out.1.symm, by rw [HX.out.2]; exact HS.out, ((KB.refl _ _).drewN _).drewN _⟩
      · by_cases hs1 : ev ≤ s
        · have HX := Lib.hid (next_no (inR_bad HSK.out HEK.out (by unfold subB; rw [decide_eq_false (show ¬ s < ev by omega)]; simp)))
          go_wp2_with fail
          go_quiet (fail)
          go_wp2
          go_ret
          exact ⟨ret_b HX.out.1.symm, by rw [HX.out.2]; exact HS.out, ((KB.refl _ _).drewN _).drewN _⟩
        · have HIN2 := Lib.hid (show ∀ (j : Nat) (x y : Int), j < k + 1 → S[j]? = some x → E[j]? = some y → subB x y = true by
            intro j x y hj hx hy
            rcases Nat.lt_or_ge j k with h | h
            · exact HIN.out j x y h hx hy
            · obtain rfl : j = k := by omega
              rw [HSK.out] at hx; rw [HEK.out] at hy
              simp at hx hy; subst hx; subst hy; exact sub_iff.2 ⟨by omega, by omega⟩)
          go_wp2_with fail
          go_quiet (fail)
          go_wp2
          go_roundw
          case rel => exact ⟨k + 1, _, by omega, by go_num, HIN2.out, rfl⟩
          case measure => simp [intOf]; omega
    · obtain rfl : k = S.length := by omega
      have HIR := Lib.hid (show inR S E = true from inR_iff.2 ⟨HL.out, fun j x y hx hy => HIN.out j x y (List.getElem?_eq_some_iff.1 hx).1 hx hy⟩)
      go_wp2_with fail
      go_loopw [6] (fun x wr => ∃ k : Nat, k ≤ S.length ∧ x = .int .i64 (k : Int) ∧ (∀ (j : Nat) (x y : Int), j < k → S[j]? = some x → E[j]? = some y → ¬ x + 1 < y) ∧ OI wr w0.heap.size (.slice Z S.length cz) (upto0 S k) ∧ KB w wr (fun k => (Value.slice Z S.length cz).ownBlock = some k) ∧ Below w0.heap.size w0 wr) (fun x _ => S.length - (intOf x).toNat)
      case atStart => exact ⟨0, Nat.zero_le _, rfl, fun j _ _ hj => by omega, HS.out, (KB.refl _ _).drewN _, below_dn HBW.out _⟩
      case round =>
        obtain ⟨k, hk, rfl, hno, hO, hK, hB⟩ := hrel
        have HNO := Lib.hid hno; have HK := Lib.hid hK; have HB := Lib.hid hB
        have hk0 : (0 : Int) ≤ (k : Int) := by omega
        by_cases hlt : k < S.length
        · obtain ⟨s, hs⟩ : ∃ s, S[k]? = some s := ⟨_, List.getElem?_eq_getElem hlt⟩
          obtain ⟨b4, o4, c4, ev, e4, hev, m4⟩ := HE.out.at_ (k := k) (by have := HL.out; omega)
          obtain ⟨rfl, rfl⟩ : A = some ⟨b4, o4, none⟩ ∧ ce = c4 := by simpa using e4
          have hlE : k < E.length := by have := HL.out; omega
          have hfs := HS.out.ri.fit s (List.mem_of_getElem? hs)
          have hfe := HE.out.fit ev (List.mem_of_getElem? hev)
          have hsub := sub_iff.1 ((inR_iff.1 HIR.out).2 k s ev hs hev)
          unfold Fit at hfs hfe
          obtain ⟨b, rfl, q1, q2, ho3⟩ := hO.bump hs (by unfold Fit; omega)
          obtain ⟨hb, q3, q4, ho4⟩ := oi_zero ho3 hs
          have HB2 := Lib.hid (HB.out.st (b := b) (i := k) (u := .int .i64 (s + 1)) hb)
          have m5 := (HE0.out.keep HB2.out).cell hev
          have HK2 := Lib.hid (HK.out.trans (KB.set (b := b) (i := k) (.int .i64 (s + 1)) (show (Value.slice (some ⟨b, 0, none⟩) S.length cz).ownBlock = some b by simp [Value.ownBlock])))
          have HSK := Lib.hid hs; have HEK := Lib.hid hev; have HO3 := Lib.hid ho3
          clear hO hK hB hno ho4 ho3 hs hev e4 m4
          by_cases hse : s + 1 < ev
          · have hfr : frN S E = k := frN_at S E k s ev HSK.out HEK.out hse HNO.out
            have HX := Lib.hid (next_yes HIR.out (show frN S E < S.length by omega))
            rw [hfr] at HX
            clear hfr
            go_wp2_with fail
            go_quiet (fail)
            go_wp2
            go_ret
            exact ⟨ret_b HX.out.1.symm, by rw [HX.out.2]; exact HO3.out, HK2.out.drewN _⟩
          · have HNO2 := Lib.hid (show ∀ (j : Nat) (x y : Int), j < k + 1 → S[j]? = some x → E[j]? = some y → ¬ x + 1 < y by
              intro j x y hj hx hy
              rcases Nat.lt_or_ge j k with h1 | h1
              · exact HNO.out j x y h1 hx hy
              · obtain rfl : j = k := by omega
                rw [HSK.out] at hx; rw [HEK.out] at hy
                simp at hx hy; subst hx; subst hy; exact hse)
            go_wp2_with fail
            go_quiet (fail)
            go_wp2
            go_roundw
            case rel => exact ⟨k + 1, by omega, by go_num, fun j x y hj hx hy => by have := HNO2.out j x y hj hx hy; omega, (oi_zero (HO3.out.drewN _) HSK.out).2.2.2, (HK2.out.drewN _).trans (KB.set _ (by simp [Value.ownBlock])), (below_dn HB2.out _).st hb⟩
            case measure => simp [intOf]; omega
        · obtain rfl : k = S.length := by omega
          have HX := Lib.hid (next_end HIR.out (frN_none S E HL.out (fun j x y hx hy => HNO.out j x y (List.getElem?_eq_some_iff.1 hx).1 hx hy)))
          rw [upto0_all] at hO
          have HO := Lib.hid hO
          clear hO hK hB hno
          go_wp2
          go_ret
          exact ⟨ret_b HX.out.1.symm, by rw [HX.out.2]; exact HO.out, HK.out⟩
/-- A slice of the call's own lies at the begin of its block, within its capacity. -/
theorem OW.oi {w : World} {B : Nat} {v : Value} {l : List Int} (h : OW w B v l) : OI w B v l ∧ ∀ A n c, v = .slice A n c → n ≤ c := by
  obtain ⟨ho, hf, hl⟩ := h
  rcases ho.2 with ⟨rfl, h0⟩ | ⟨g, cap, cur, rfl, hg, hc, hn, hm, hs, hx⟩
  · have : l = [] := List.eq_nil_of_length_eq_zero h0
    subst this
    exact ⟨⟨none, 0, rfl, by simp, by simp, fun h => by simp at h⟩, fun A n c e => by cases e; omega⟩
  · refine ⟨⟨_, cap, rfl, by omega, hf, fun _ => ⟨g, rfl, hg, fun i u hu => ?_⟩⟩, fun A n c e => by cases e; exact hn⟩
    have h1 := ho.cells (g := g) rfl i u hu
    rw [Addr.add_lit, Nat.zero_add] at h1
    exact ⟨h1, ho.frozenAt i⟩
theorem OI.kb {w w' : World} {B : Nat} {v : Value} {l : List Int} {S : Nat → Prop} (h : OI w B v l) (k : KB w w' S) (hn : ∀ g, v.ownBlock = some g → ¬ S g) : OI w' B v l := by
  obtain ⟨A, cap, rfl, hm, hf, hc⟩ := h
  exact ⟨A, cap, rfl, hm, hf, fun h0 => by
    obtain ⟨b, rfl, h2, h1⟩ := hc h0
    exact ⟨b, rfl, h2, h1.kb k (hn b (by simp [Value.ownBlock]))⟩⟩
theorem OI.lt {w : World} {B : Nat} {v : Value} {l : List Int} (h : OI w B v l) (h0 : 0 < l.length) : ∀ g, v.ownBlock = some g → B ≤ g := by
  obtain ⟨A, cap, rfl, hm, hf, hc⟩ := h
  obtain ⟨b, rfl, h2, _⟩ := hc h0
  intro g hg
  have : b = g := by simpa [Value.ownBlock] using hg
  omega
end Go.Proofs.Ytkgdnlknnjiglaa

/- Contracts of endsFit, Valid and Size. -/
import Derived.Test.YtkgdnlknnjiglaaSecD
namespace Go.Proofs.Ytkgdnlknnjiglaa
open Go.RowKit

theorem zip_at {a b : List Int} {k : Nat} {x y : Int} (h1 : a[k]? = some x) (h2 : b[k]? = some y) : (a.zip b)[k]? = some (x, y) := by
  rw [List.getElem?_zip_eq_some]; exact ⟨h1, h2⟩
theorem RI.at_ {w : World} {v : Value} {l : List Int} {k : Nat} (h : RI w v l) (hk : k < l.length) :
    ∃ (b o cap : Nat) (x : Int), v = .slice (some ⟨b, o, none⟩) l.length cap ∧ l[k]? = some x ∧ w.cell? ⟨b, o + k, none⟩ = some (.int .i64 x) := by
  obtain ⟨A, cap, rfl, hm, hf, hc⟩ := h
  obtain ⟨b, o, rfl, hr⟩ := hc (by omega)
  have hx : l[k]? = some l[k] := List.getElem?_eq_getElem hk
  exact ⟨b, o, cap, l[k], rfl, hx, hr _ _ hx⟩
def okD (d : DS) : Prop := okE d.ex = true ∧ d.st.length = d.ex.length ∧ d.st.all nearB = true ∧ 0 ≤ d.b
theorem zip_len {d : DS} (h : okD d) : (d.ex.zip d.st).length = d.ex.length := by rw [List.length_zip, h.2.1, Nat.min_self]
theorem zip_fine {d : DS} (h : okD d) (h0 : pr d.ex ≠ 0) (k : Nat) : ∀ p ∈ (d.ex.zip d.st).take k, (1 ≤ p.1 ∧ p.1 ≤ 4000) ∧ -2147483648 ≤ p.2 ∧ p.2 ≤ 2147483648 := by
  intro p hp
  have hp := List.of_mem_zip (List.mem_of_mem_take hp)
  have h1 := (okE_iff.1 h.1).2.1
  exact ⟨⟨pr_ne h1 h0 _ hp.1, (h1 _ hp.1).2⟩, near_iff.1 (List.all_eq_true.1 h.2.2.1 _ hp.2)⟩

set_option maxRecDepth 100000 in
set_option maxHeartbeats 2000000 in
theorem endsFit_c (v : Value) (d : DS) (w : World) (h : RD w v d) (hd : okD d) (h0 : pr d.ex ≠ 0) (hb : d.b ≤ 2147483648) :
    Calls Try.prog 49 #[v] w fun e w' => e = .returned (.bool (fitB d)) ∧ ∃ u, Below w.heap.size w u ∧ ∃ n, w' = u.drewN n := by
  obtain ⟨ve, vs, rfl, he, hs, _⟩ := h
  obtain ⟨t, ht⟩ : ∃ t, t = fitB d := ⟨_, rfl⟩
  have HT := Lib.hid ht
  rw [← ht]
  have HL3 := Lib.hid (okE_iff.1 hd.1).1
  have HZ := Lib.hid (zip_len hd)
  have HF := Lib.hid (zip_fine hd h0)
  have HS := Lib.hid hd.2.1
  have h0b := hd.2.2.2
  obtain ⟨o1, z1⟩ : ∃ o : Obj, o = .cells #[.int .i64 d.b, ve, vs] 31 := ⟨_, rfl⟩
  have HB := Lib.hid ((Below.refl w.heap.size w).alloc (Nat.le_refl _) o1)
  have HE := Lib.hid (he.keep HB.out); have HV := Lib.hid (hs.keep HB.out)
  rw [z1] at HB HE HV
  obtain ⟨E, ce, rfl, hme, _, _⟩ := he
  clear ht hd h0 hs z1 o1
  go_enter Try.func49, Try.ntmps49
  go_wp2_with fail
  go_quiet (fail)
  go_wp2_with fail
  go_loop [3, 4, 15] (fun a b x => ∃ (k : Nat) (p q : Int), k ≤ d.ex.length ∧ x = .int .i64 (k : Int) ∧ a = .int .i64 p ∧ b = .int .i64 q ∧ p = loF d.b ((d.ex.zip d.st).take k) ∧ q = hiF d.b ((d.ex.zip d.st).take k)) (fun _ _ x => d.ex.length - (intOf x).toNat)
  case atStart => exact ⟨0, d.b, d.b, by omega, rfl, rfl, rfl, rfl, rfl⟩
  case round =>
    obtain ⟨k, p, q, hk, rfl, rfl, rfl, hp, hq⟩ := hrel
    have hbd := ends_bd ((d.ex.zip d.st).take k) d.b (HF.out k)
    rw [← hp, ← hq] at hbd
    have hkl : ((d.ex.zip d.st).take k).length ≤ 3 := by rw [List.length_take]; have := HL3.out; have := HZ.out; omega
    have HP := Lib.hid hp; have HQ := Lib.hid hq
    clear hp hq
    obtain ⟨m, hm⟩ : ∃ m : Nat, m = ((d.ex.zip d.st).take k).length := ⟨_, rfl⟩
    rw [← hm] at hbd hkl
    have hp1 : -30000000000000 ≤ p ∧ p ≤ 2147483648 := by omega
    have hq1 : 0 ≤ q ∧ q ≤ 30000000000000 := by omega
    clear hbd hkl hm
    by_cases hlt : k < d.ex.length
    · obtain ⟨b1, o1, c1, x, e1, hx, hc1⟩ := HE.out.at_ hlt
      obtain ⟨rfl, rfl⟩ : E = some ⟨b1, o1, none⟩ ∧ ce = c1 := by simpa using e1
      obtain ⟨b2, o2, c2, y, rfl, hy, hc2⟩ := HV.out.at_ (k := k) (by have := HS.out; omega)
      have hlt2 : k < d.st.length := by have := HS.out; omega
      have hxy := zip_at hx hy
      have hfi := HF.out (k + 1) (x, y) (by rw [List.take_add_one, hxy]; simp)
      simp only at hfi
      have hmn := mul_near (x := x - 1) (y := y) (by omega) (by omega) (by omega) (by omega)
      have HXP := Lib.hid (show loF d.b ((d.ex.zip d.st).take (k + 1)) = p + min ((x - 1) * y) 0 by rw [List.take_add_one, hxy]; exact (loF_snoc _ _ _).trans (by rw [HP.out]))
      have HXQ := Lib.hid (show hiF d.b ((d.ex.zip d.st).take (k + 1)) = q + max ((x - 1) * y) 0 by rw [List.take_add_one, hxy]; exact (hiF_snoc _ _ _).trans (by rw [HQ.out]))
      clear e1 hx hy hxy
      go_wp2
      refine ⟨⟨k + 1, _, _, by omega, by go_num, rfl, rfl, ?_, ?_⟩, by simp [intOf]; omega⟩
      · rw [HXP.out]; split <;> omega
      · rw [HXQ.out]; split <;> omega
    · obtain rfl : k = d.ex.length := by omega
      have HX := Lib.hid (show t = (decide (0 ≤ p) && decide (q ≤ 2147483648)) by
        rw [HT.out, HP.out, HQ.out, List.take_of_length_le (by rw [HZ.out]; omega)]; rfl)
      by_cases h1 : 0 ≤ p
      · by_cases h2 : q ≤ 2147483648
        · rw [decide_eq_true h1, decide_eq_true h2] at HX
          go_wp2
          go_ret
          exact ⟨ret_b HX.out.symm, _, HB.out, nq, rfl⟩
        · rw [decide_eq_true h1, decide_eq_false h2] at HX
          go_wp2
          go_ret
          exact ⟨ret_b HX.out.symm, _, HB.out, nq, rfl⟩
      · rw [decide_eq_false h1] at HX
        go_wp2
        go_ret
        exact ⟨ret_b HX.out.symm, _, HB.out, nq, rfl⟩

/-- What Valid does with the world: new blocks, and draws behind them. -/
def BD (w w' : World) : Prop := ∃ u, Below w.heap.size w u ∧ ∃ n, w' = u.drewN n
theorem BD.below {w w' : World} (h : BD w w') : Below w.heap.size w w' := by
  obtain ⟨u, h, n, rfl⟩ := h; exact below_dn h n
theorem vld_1 {d : DS} (h : okE d.ex = false) : vldB d = false := by unfold vldB; rw [h]; rfl
theorem vld_2 {d : DS} (h : ¬ d.st.length = d.ex.length) : vldB d = false := by unfold vldB; rw [decide_eq_false h]; simp
theorem vld_3 {d : DS} (h : d.st.all nearB = false) : vldB d = false := by unfold vldB; rw [h]; simp
theorem vld_4 {d : DS} (h : ¬ 0 ≤ d.b) : vldB d = false := by unfold vldB; rw [decide_eq_false h]; simp
theorem vld_5 {d : DS} (h : okD d) : vldB d = (decide (pr d.ex = 0) || (decide (d.b ≤ 2147483648) && fitB d)) := by
  unfold vldB; rw [h.1, decide_eq_true h.2.1, h.2.2.1, decide_eq_true h.2.2.2]; simp
theorem vld_ok {d : DS} (h : vldB d = true) : okD d := by
  unfold vldB at h
  simp only [Bool.and_eq_true, decide_eq_true_eq] at h
  exact ⟨h.1.1.1.1, h.1.1.1.2, h.1.1.2, h.1.2⟩
set_option maxRecDepth 100000 in
set_option maxHeartbeats 2000000 in
theorem Valid_c (v : Value) (d : DS) (w : World) (h : RD w v d) : Calls Try.prog 15 #[v] w fun e w' => e = .returned (.bool (vldB d)) ∧ BD w w' := by
  have h0 := h
  obtain ⟨ve, vs, rfl, he, hs, hfb⟩ := h
  obtain ⟨t, ht⟩ : ∃ t, t = vldB d := ⟨_, rfl⟩
  have HT := Lib.hid ht
  rw [← ht]
  obtain ⟨o1, z1⟩ : ∃ o : Obj, o = .cells #[.int .i64 d.b, ve, vs] 31 := ⟨_, rfl⟩
  have HB := Lib.hid ((Below.refl w.heap.size w).alloc (Nat.le_refl _) o1)
  have HD := Lib.hid (h0.keep HB.out)
  have HP := Lib.hid (product_c ve d.ex _ (he.keep HB.out))
  have HN := Lib.hid (anyFar_c vs d.st _ (hs.keep HB.out))
  rw [z1] at HB HD HP HN
  have HFI := Lib.hid (fun hd h1 h2 => endsFit_c _ d _ HD.out hd h1 h2)
  have HBD := Lib.hid (show BD w _ from ⟨_, HB.out, 0, rfl⟩)
  obtain ⟨E, ce, rfl, hme, _, _⟩ := he
  obtain ⟨S, cs, rfl, hms, _, _⟩ := hs
  clear ht h0 z1 o1
  by_cases ho : okE d.ex = true
  · rw [prodR_yes ho] at HP
    obtain ⟨p, hp⟩ : ∃ p, p = pr d.ex := ⟨_, rfl⟩
    rw [← hp] at HP
    by_cases hl : d.st.length = d.ex.length
    · have f0 : ((d.st.length : Int) == (d.ex.length : Int)) = true := by simp; omega
      have f1 : ((d.st.length : Int) != (d.ex.length : Int)) = false := by simp; omega
      rcases hn : d.st.all nearB with _ | _
      · rw [hn] at HN
        have HF := Lib.hid (show t = false by rw [HT.out, vld_3 hn])
        clear hn ho hl hp
        go_enter Try.func15, Try.ntmps15
        go_wp2_with (first | (go_at_call 46; (with_reducible refine HP.out.mono ?_); rintro e w' ⟨rfl, rfl⟩) | (go_at_call 47; (with_reducible refine HN.out.mono ?_); rintro e w' ⟨rfl, rfl⟩) | go_in)
        go_ret
        exact ⟨ret_b HF.out.symm, HBD.out⟩
      · rw [hn] at HN
        by_cases hb : 0 ≤ d.b
        · have HOK := Lib.hid (show okD d from ⟨ho, hl, hn, hb⟩)
          have HV := Lib.hid (vld_5 HOK.out)
          rw [← hp] at HV
          have HPP := Lib.hid hp
          by_cases h1 : p = 0
          · have g0 : (p == 0) = true := by simpa using h1
            have HF := Lib.hid (show t = true by rw [HT.out, HV.out, decide_eq_true h1]; rfl)
            clear hn ho hl hp h1
            go_enter Try.func15, Try.ntmps15
            go_wp2_with (first | (go_at_call 46; (with_reducible refine HP.out.mono ?_); rintro e w' ⟨rfl, rfl⟩) | (go_at_call 47; (with_reducible refine HN.out.mono ?_); rintro e w' ⟨rfl, rfl⟩) | go_in)
            go_ret
            exact ⟨ret_b HF.out.symm, HBD.out⟩
          · have g0 : (p == 0) = false := by simpa using h1
            by_cases h2 : d.b ≤ 2147483648
            · have HF := Lib.hid (show t = fitB d by rw [HT.out, HV.out, decide_eq_false h1, decide_eq_true h2]; rfl)
              have HE := Lib.hid (HFI.out HOK.out (by rw [← HPP.out]; exact h1) h2)
              rw [← HF.out] at HE
              clear hn ho hl hp h1
              go_enter Try.func15, Try.ntmps15
              go_wp2_with (first | (go_at_call 46; (with_reducible refine HP.out.mono ?_); rintro e w' ⟨rfl, rfl⟩) | (go_at_call 47; (with_reducible refine HN.out.mono ?_); rintro e w' ⟨rfl, rfl⟩) | (go_at_call 49; (with_reducible refine HE.out.mono ?_); rintro e w' ⟨rfl, u, hu, nn, rfl⟩) | go_in)
              go_ret
              exact ⟨rfl, u, HB.out.trans (hu.mono HB.out.size), nn, rfl⟩
            · have HF := Lib.hid (show t = false by rw [HT.out, HV.out, decide_eq_false h1, decide_eq_false h2]; rfl)
              clear hn ho hl hp h1
              go_enter Try.func15, Try.ntmps15
              go_wp2_with (first | (go_at_call 46; (with_reducible refine HP.out.mono ?_); rintro e w' ⟨rfl, rfl⟩) | (go_at_call 47; (with_reducible refine HN.out.mono ?_); rintro e w' ⟨rfl, rfl⟩) | go_in)
              go_ret
              exact ⟨ret_b HF.out.symm, HBD.out⟩
        · have HF := Lib.hid (show t = false by rw [HT.out, vld_4 hb])
          clear hn ho hl hp
          go_enter Try.func15, Try.ntmps15
          go_wp2_with (first | (go_at_call 46; (with_reducible refine HP.out.mono ?_); rintro e w' ⟨rfl, rfl⟩) | (go_at_call 47; (with_reducible refine HN.out.mono ?_); rintro e w' ⟨rfl, rfl⟩) | go_in)
          go_ret
          exact ⟨ret_b HF.out.symm, HBD.out⟩
    · have f0 : ((d.st.length : Int) == (d.ex.length : Int)) = false := by simp; omega
      have f1 : ((d.st.length : Int) != (d.ex.length : Int)) = true := by simp; omega
      have HF := Lib.hid (show t = false by rw [HT.out, vld_2 hl])
      clear ho hl hp
      go_enter Try.func15, Try.ntmps15
      go_wp2_with (first | (go_at_call 46; (with_reducible refine HP.out.mono ?_); rintro e w' ⟨rfl, rfl⟩) | go_in)
      go_ret
      exact ⟨ret_b HF.out.symm, HBD.out⟩
  · have ho' : okE d.ex = false := by simpa using ho
    rw [prodR_no ho'] at HP
    have HF := Lib.hid (show t = false by rw [HT.out, vld_1 ho'])
    clear ho ho'
    go_enter Try.func15, Try.ntmps15
    go_wp2_with (first | (go_at_call 46; (with_reducible refine HP.out.mono ?_); rintro e w' ⟨rfl, rfl⟩) | go_in)
    go_ret
    exact ⟨ret_b HF.out.symm, HBD.out⟩
end Go.Proofs.Ytkgdnlknnjiglaa

/- What Reverse gives, as a function of the descriptor; contract of the code's Reverse. -/
import Derived.Test.YtkgdnlknnjiglaaSecTe
import Derived.Test.YtkgdnlknnjiglaaSecTf
import Derived.Test.YtkgdnlknnjiglaaSecU
namespace Go.Proofs.Ytkgdnlknnjiglaa
open Go.RowKit

/-- What Reverse gives. -/
def rvB (d : DS) (n : Int) : Bool := vldB d && (decide (0 ≤ n) && decide (n < d.ex.length))
def rvAt (d : DS) (k : Nat) : DS := ⟨if 0 < pr d.ex then d.b + (d.ex.getD k 0 - 1) * d.st.getD k 0 else d.b, d.ex, d.st.set k (-(d.st.getD k 0))⟩
def rvD (d : DS) (n : Int) : DS := if rvB d n = true then rvAt d n.toNat else ⟨0, [], []⟩
def rvE (d : DS) (n : Int) : Int := if rvB d n = true then 0 else 2
theorem rv_no {d : DS} {n : Int} (h : rvB d n = false) : rvD d n = ⟨0, [], []⟩ ∧ rvE d n = 2 := by unfold rvD rvE; rw [h]; exact ⟨rfl, rfl⟩
theorem rv_yes {d : DS} {k : Nat} (h : vldB d = true) (hk : k < d.ex.length) : rvD d k = rvAt d k ∧ rvE d k = 0 := by
  have : rvB d k = true := by unfold rvB; rw [h]; simp [hk]
  unfold rvD rvE; rw [this]; exact ⟨rfl, rfl⟩
theorem OI.at_ {w : World} {B k : Nat} {v : Value} {l : List Int} (x : Int) (h : OI w B v l) (hk : k < l.length) (hx : Fit x) :
    ∃ b c y, v = .slice (some ⟨b, 0, none⟩) l.length c ∧ B ≤ b ∧ w.cell? ⟨b, k, none⟩ = some (.int .i64 y) ∧ w.frozen? ⟨b, k, none⟩ = false ∧ OI (w.setCell ⟨b, k, none⟩ (.int .i64 x)) B v (l.set k x) := by
  obtain ⟨A, cap, rfl, hm, hf, hc⟩ := h
  obtain ⟨b, rfl, hb, hh⟩ := hc (by omega)
  have h1 := hh k _ (icells_at (List.getElem?_eq_getElem hk))
  refine ⟨b, cap, _, rfl, hb, h1.1, h1.2, _, cap, by rw [List.length_set], by rw [List.length_set]; exact hm, fun z hz => ?_, fun _ => ⟨b, rfl, hb, ?_⟩⟩
  · rcases List.mem_or_eq_of_mem_set hz with hz | hz
    · exact hf z hz
    · rw [hz]; exact hx
  · rw [icells_set]; exact hh.set
theorem OI.far {w : World} {B n i : Nat} {v u : Value} {l : List Int} (h : OI w B v l) (hn : ∀ g, v.ownBlock = some g → g ≠ n) : OI (w.setCell ⟨n, i, none⟩ u) B v l := by
  obtain ⟨A, cap, rfl, hm, hf, hc⟩ := h
  exact ⟨A, cap, rfl, hm, hf, fun h0 => by
    obtain ⟨b, rfl, h2, h1⟩ := hc h0
    exact ⟨b, rfl, h2, h1.far (fun e => hn b (by simp [Value.ownBlock]) e.symm)⟩⟩
theorem RI.drew {w : World} {v : Value} {l : List Int} (h : RI w v l) : RI w.drew v l := h
theorem resD37 (tm : Array Value) (R : Nat) (a b c : Value) (n : Int) (w : World) (hp : tm[4]?.getD undef = .pointer (some ⟨R, 0, none⟩)) (h5 : tm[5]?.getD undef = .int .i64 n) (h : Has w R [a, b, c]) :
    (results Try.f37 tm).run Try.prog w = .ok (.tuple #[.agg #[a, b, c], .int .i64 n]) w := by
  obtain ⟨h0, h1, h2⟩ := h.c3
  simp [results, Try.results37, go_sem, hp, h5, h0, h1, h2]
set_option maxRecDepth 100000 in
set_option maxHeartbeats 4000000 in
theorem Reverse_c (v : Value) (n : Int) (d : DS) (w : World) (h : RD w v d) (hn : Fit n) : Calls Try.prog 37 #[v, .int .i64 n] w (DPost (rvD d n) (rvE d n) w) := by
  have h0 := h
  obtain ⟨ve, vt, rfl, he, ht, hfb⟩ := h
  have HB := Lib.hid (bt_ (box_below w (.cells #[.int .i64 d.b, ve, vt] 31)) (box_below _ (.cells #[.int .i64 0, .slice none 0 0, .slice none 0 0] 31)))
  have HX := Lib.hid ((Has.new w [.int .i64 d.b, ve, vt] 31).alloc (.cells #[.int .i64 0, .slice none 0 0, .slice none 0 0] 31))
  have HY := Lib.hid (Has.new (w.alloc (.cells #[.int .i64 d.b, ve, vt] 31)) [.int .i64 0, .slice none 0 0, .slice none 0 0] 31)
  obtain ⟨W0, hW0⟩ : ∃ W0, W0 = (w.alloc (.cells #[.int .i64 d.b, ve, vt] 31)).alloc (.cells #[.int .i64 0, .slice none 0 0, .slice none 0 0] 31) := ⟨_, rfl⟩
  rw [← hW0] at HB HX HY
  have hs0 : W0.heap.size = w.heap.size + 2 := by rw [hW0]; simp
  have HS := Lib.hid hs0
  rw [show (w.alloc (.cells #[.int .i64 d.b, ve, vt] 31)).heap.size = w.heap.size + 1 by simp] at HY
  have HV := Lib.hid (Size_c _ d W0 (h0.keep HB.out))
  have HRD := Lib.hid h0
  have HW := Lib.hid hW0
  have HE := Lib.hid he; have HT := Lib.hid ht
  clear he ht hW0 hs0 h0
  by_cases hv : rvB d n = true
  · have hv2 := hv
    unfold rvB at hv2
    simp only [Bool.and_eq_true, decide_eq_true_eq] at hv2
    obtain ⟨hvv, hn0, hn1⟩ := hv2
    obtain ⟨k, rfl⟩ := Int.eq_ofNat_of_zero_le hn0
    have hk : k < d.ex.length := by omega
    rw [(rv_yes hvv hk).1, (rv_yes hvv hk).2]
    rw [szR_yes hvv] at HV
    have HO := Lib.hid (vld_ok hvv)
    have HV0 := Lib.hid hvv
    have hst : k < d.st.length := by rw [HO.out.2.1]; exact hk
    have HK := Lib.hid hk; have HKT := Lib.hid hst
    obtain ⟨b1, o1, c1, x, rfl, hx, ux⟩ := HE.out.at_ hk
    obtain ⟨b2, o2, c2, t, rfl, hy, uy⟩ := HT.out.at_ hst
    have HUX := Lib.hid ux; have HUY := Lib.hid uy
    have HXX := Lib.hid hx; have HYY := Lib.hid hy
    have HC := Lib.hid (fun (wx : World) (hb : Below w.heap.size w wx) => copied_c _ d wx (HRD.out.keep hb) (by have := (okE_iff.1 HO.out.1).1; have := HO.out.2.1; omega))
    clear hv hvv hst ux uy hx hy
    have g1 : (0 : Int) ≤ k := by omega
    have g3 : ¬ ((d.ex.length : Int) ≤ (k : Int)) := by omega
    go_enter Try.func37, Try.ntmps37
    go_wp2_with fail
    rw [← HW.out]
    refine HV.out.mono ?_
    rintro e w1 ⟨rfl, hb⟩
    have HB1 := Lib.hid hb
    obtain ⟨x1, x2, x3⟩ := (HX.out.keep HB1.out).c3
    clear hb
    go_wp2_with fail
    refine (HC.out w1 (bt_ HB.out HB1.out)).mono ?_
    rintro e w2 ⟨va, vb, rfl, hT, hb2⟩
    have HB2 := Lib.hid (bt_ HB1.out hb2)
    have HS1 := Lib.hid (show w.heap.size + 2 ≤ w1.heap.size by have := HB1.out.size; rw [HS.out] at this; exact this)
    have HS2 := Lib.hid (show w1.heap.size ≤ w2.heap.size from hb2.size)
    have hfx : Fit (-t) := by have := near_iff.1 (List.all_eq_true.1 HO.out.2.2.1 t (List.mem_of_getElem? HYY.out)); unfold Fit; omega
    obtain ⟨A1, k1, A2, k2, rfl, rfl⟩ := hT.slices rfl rfl
    have HT2 := Lib.hid hT
    have hxb := (okE_iff.1 HO.out.1).2.1 x (List.mem_of_getElem? HXX.out)
    have htb := near_iff.1 (List.all_eq_true.1 HO.out.2.2.1 t (List.mem_of_getElem? HYY.out))
    have gx : d.ex.getD k 0 = x := by rw [List.getD_eq_getElem?_getD, HXX.out]; rfl
    have gt : d.st.getD k 0 = t := by rw [List.getD_eq_getElem?_getD, HYY.out]; rfl
    have hneg : IntKind.i64.wrap (-t) = -t := IntWalk.i64_in _ (by omega)
    have HG := Lib.hid (And.intro gx gt)
    have HXF := Lib.hid (fun bb : Int => (HX.out.keep HB2.out).alloc (.cells #[.int .i64 bb, .slice A1 d.ex.length k1, .slice A2 d.st.length k2] 31))
    have HYF := Lib.hid (fun bb : Int => (HY.out.keep HB2.out).alloc (.cells #[.int .i64 bb, .slice A1 d.ex.length k1, .slice A2 d.st.length k2] 31))
    have HZF := Lib.hid (fun bb : Int => Has.new w2 [.int .i64 bb, .slice A1 d.ex.length k1, .slice A2 d.st.length k2] 31)
    have HBF := Lib.hid (fun bb : Int => bt_ (bt_ HB.out HB2.out) (box_below w2 (.cells #[.int .i64 bb, .slice A1 d.ex.length k1, .slice A2 d.st.length k2] 31)))
    have HTF := Lib.hid (fun bb : Int => hT.alloc (.cells #[.int .i64 bb, .slice A1 d.ex.length k1, .slice A2 d.st.length k2] 31))
    obtain ⟨g2, c3, y0, e2, hg2, -⟩ := (hT.2.1.oi.1.at_ (-t) HKT.out hfx)
    obtain ⟨rfl, rfl⟩ : A2 = some ⟨g2, 0, none⟩ ∧ k2 = c3 := by simpa using e2
    have HSF := Lib.hid (fun bb : Int => show (∃ y, (w2.alloc (.cells #[.int .i64 bb, .slice A1 d.ex.length k1, .slice (some ⟨g2, 0, none⟩) d.st.length k2] 31)).cell? ⟨g2, k, none⟩ = some (.int .i64 y)) ∧ (w2.alloc (.cells #[.int .i64 bb, .slice A1 d.ex.length k1, .slice (some ⟨g2, 0, none⟩) d.st.length k2] 31)).frozen? ⟨g2, k, none⟩ = false ∧ OI ((w2.alloc (.cells #[.int .i64 bb, .slice A1 d.ex.length k1, .slice (some ⟨g2, 0, none⟩) d.st.length k2] 31)).setCell ⟨g2, k, none⟩ (.int .i64 (-t))) w1.heap.size (.slice (some ⟨g2, 0, none⟩) d.st.length k2) (d.st.set k (-t)) from by
      obtain ⟨g3, c3, y, e3, hg3, z1, z2, ho3⟩ := (HTF.out bb).2.1.oi.1.at_ (-t) HKT.out hfx
      obtain ⟨rfl, rfl⟩ : g2 = g3 ∧ k2 = c3 := by simpa using e3
      exact ⟨⟨y, z1⟩, z2, ho3⟩)
    have hgl : g2 < w2.heap.size := (hT.2.1.lt g2 rfl).2
    have HGL := Lib.hid (And.intro hg2 hgl)
    have HUF := Lib.hid (fun bb : Int => ck (HBF.out bb) HUY.out)
    have ux := ck (HBF.out d.b) HUX.out
    have uy := ck (HBF.out d.b) HUY.out
    clear hT hb2 x1 x2 x3 hfx gx gt e2 hg2 hgl
    obtain ⟨x1, x2, x3⟩ := (HXF.out d.b).c3
    obtain ⟨y1, y2, y3⟩ := (HZF.out d.b).c3
    obtain ⟨f1, f2, f3⟩ := (HZF.out d.b).f3
    have hkt := HKT.out
    by_cases hp : 0 < pr d.ex
    · have hdb : d.b ≤ 2147483648 := by
        have := HV0.out
        rw [vld_5 HO.out] at this
        simp at this
        omega
      have h0b := HO.out.2.2.2
      have hx1 := pr_ne (okE_iff.1 HO.out.1).2.1 (by omega) x (List.mem_of_getElem? HXX.out)
      have hmul := mul_near (x := x - 1) (y := t) (by omega) (by omega) htb.1 htb.2
      have hw1 : IntKind.i64.wrap (x - 1) = x - 1 := IntWalk.i64_in _ (by omega)
      obtain ⟨m, hm⟩ : ∃ m, m = (x - 1) * t := ⟨_, rfl⟩
      rw [← hm] at hmul
      have hw2 : IntKind.i64.wrap ((x - 1) * t) = m := by rw [← hm]; exact IntWalk.i64_in _ (by omega)
      have hw3 : IntKind.i64.wrap (d.b + m) = d.b + m := IntWalk.i64_in _ (by omega)
      have HDD := Lib.hid (show rvAt d k = ⟨d.b + m, d.ex, d.st.set k (-t)⟩ by unfold rvAt; rw [if_pos hp, HG.out.1, HG.out.2, hm])
      have HFM := Lib.hid (show Fit (d.b + m) by unfold Fit; omega)
      clear hm hmul
      go_wp2_with fail
      go_region
      clear x1 x2 x3 y1 y2 y3 f1 f2 f3
      obtain ⟨x1, x2, x3⟩ := ((HXF.out (d.b + m)).drew).c3
      obtain ⟨y1, y2, y3⟩ := ((HZF.out (d.b + m)).drew).c3
      have uy := HUF.out (d.b + m)
      obtain ⟨⟨yv, s1⟩, s2, -⟩ := HSF.out (d.b + m)
      have hwt : IntKind.i64.wrap (-t) = -t := hneg
      go_wp2_with fail
      go_region
      have HX5 := Lib.hid ((HXF.out (d.b + m)).far (m := g2) (i := k) (v := .int .i64 (-t)) (by have := HS1.out; have := HGL.out.1; omega))
      have HZ5 := Lib.hid ((HZF.out (d.b + m)).far (m := g2) (i := k) (v := .int .i64 (-t)) (by have := HGL.out.2; omega))
      have HY5 := Lib.hid ((HYF.out (d.b + m)).far (m := g2) (i := k) (v := .int .i64 (-t)) (by have := HS1.out; have := HGL.out.1; omega))
      obtain ⟨q1, q2, q3⟩ := HZ5.out.c3
      obtain ⟨r1, r2, r3⟩ := HY5.out.c3
      obtain ⟨p1, p2, p3⟩ := HY5.out.f3
      clear x1 x2 x3 y1 y2 y3 uy s1 s2
      go_wp2
      have hs1 := HS1.out
      have hs2 := HS2.out
      have hgl := HGL.out
      have hBw := (((((HBF.out (d.b + m)).st (b := g2) (i := k) (u := .int .i64 (-t)) (by omega)).st (b := w.heap.size + 1) (i := 0) (u := .int .i64 (d.b + m)) (by omega)).st (b := w.heap.size + 1) (i := 1) (u := .slice A1 d.ex.length k1) (by omega)).st (b := w.heap.size + 1) (i := 2) (u := .slice (some ⟨g2, 0, none⟩) d.st.length k2) (by omega))
      have hRe := (((((HTF.out (d.b + m)).1.oi.1.far (n := g2) (i := k) (u := .int .i64 (-t)) (fun g hg e => HT2.out.2.2 g hg (by rw [e]; rfl))).far (n := w.heap.size + 1) (i := 0) (u := .int .i64 (d.b + m)) (fun g hg => by have := (HTF.out (d.b + m)).1.lt g hg; omega)).far (n := w.heap.size + 1) (i := 1) (u := .slice A1 d.ex.length k1) (fun g hg => by have := (HTF.out (d.b + m)).1.lt g hg; omega)).far (n := w.heap.size + 1) (i := 2) (u := .slice (some ⟨g2, 0, none⟩) d.st.length k2) (fun g hg => by have := (HTF.out (d.b + m)).1.lt g hg; omega)).ri
      have hgn : ∀ g, (Value.slice (some ⟨g2, 0, none⟩) d.st.length k2).ownBlock = some g → g ≠ w.heap.size + 1 := fun g hg => by
        have h2g : g2 = g := by simpa [Value.ownBlock] using hg
        omega
      have hRs := ((((HSF.out (d.b + m)).2.2.far (n := w.heap.size + 1) (i := 0) (u := .int .i64 (d.b + m)) hgn).far (n := w.heap.size + 1) (i := 1) (u := .slice A1 d.ex.length k1) hgn).far (n := w.heap.size + 1) (i := 2) (u := .slice (some ⟨g2, 0, none⟩) d.st.length k2) hgn).ri
      rw [HDD.out]
      refine bodyPost_ret (resD37 _ _ _ _ _ _ _ rfl rfl ((HY5.out.set3 _ _ _).drew.drew)) rfl ⟨_, rfl, ⟨_, _, rfl, ?_, ?_, HFM.out⟩, ?_⟩
      · with_reducible exact (hRe).drew.drew
      · with_reducible exact (hRs).drew.drew
      · with_reducible exact (hBw).drew.drew
    · have HDD := Lib.hid (show rvAt d k = ⟨d.b, d.ex, d.st.set k (-t)⟩ by unfold rvAt; rw [if_neg hp, HG.out.2])
      have HFM := Lib.hid hfb
      clear x1 x2 x3 y1 y2 y3 f1 f2 f3
      obtain ⟨x1, x2, x3⟩ := ((HXF.out (d.b))).c3
      obtain ⟨y1, y2, y3⟩ := ((HZF.out (d.b))).c3
      have uy := HUF.out (d.b)
      obtain ⟨⟨yv, s1⟩, s2, -⟩ := HSF.out (d.b)
      have hwt : IntKind.i64.wrap (-t) = -t := hneg
      go_wp2_with fail
      go_region
      have HX5 := Lib.hid ((HXF.out (d.b)).far (m := g2) (i := k) (v := .int .i64 (-t)) (by have := HS1.out; have := HGL.out.1; omega))
      have HZ5 := Lib.hid ((HZF.out (d.b)).far (m := g2) (i := k) (v := .int .i64 (-t)) (by have := HGL.out.2; omega))
      have HY5 := Lib.hid ((HYF.out (d.b)).far (m := g2) (i := k) (v := .int .i64 (-t)) (by have := HS1.out; have := HGL.out.1; omega))
      obtain ⟨q1, q2, q3⟩ := HZ5.out.c3
      obtain ⟨r1, r2, r3⟩ := HY5.out.c3
      obtain ⟨p1, p2, p3⟩ := HY5.out.f3
      clear x1 x2 x3 y1 y2 y3 uy s1 s2
      go_wp2
      have hs1 := HS1.out
      have hs2 := HS2.out
      have hgl := HGL.out
      have hBw := (((((HBF.out (d.b)).st (b := g2) (i := k) (u := .int .i64 (-t)) (by omega)).st (b := w.heap.size + 1) (i := 0) (u := .int .i64 (d.b)) (by omega)).st (b := w.heap.size + 1) (i := 1) (u := .slice A1 d.ex.length k1) (by omega)).st (b := w.heap.size + 1) (i := 2) (u := .slice (some ⟨g2, 0, none⟩) d.st.length k2) (by omega))
      have hRe := (((((HTF.out (d.b)).1.oi.1.far (n := g2) (i := k) (u := .int .i64 (-t)) (fun g hg e => HT2.out.2.2 g hg (by rw [e]; rfl))).far (n := w.heap.size + 1) (i := 0) (u := .int .i64 (d.b)) (fun g hg => by have := (HTF.out (d.b)).1.lt g hg; omega)).far (n := w.heap.size + 1) (i := 1) (u := .slice A1 d.ex.length k1) (fun g hg => by have := (HTF.out (d.b)).1.lt g hg; omega)).far (n := w.heap.size + 1) (i := 2) (u := .slice (some ⟨g2, 0, none⟩) d.st.length k2) (fun g hg => by have := (HTF.out (d.b)).1.lt g hg; omega)).ri
      have hgn : ∀ g, (Value.slice (some ⟨g2, 0, none⟩) d.st.length k2).ownBlock = some g → g ≠ w.heap.size + 1 := fun g hg => by
        have h2g : g2 = g := by simpa [Value.ownBlock] using hg
        omega
      have hRs := ((((HSF.out (d.b)).2.2.far (n := w.heap.size + 1) (i := 0) (u := .int .i64 (d.b)) hgn).far (n := w.heap.size + 1) (i := 1) (u := .slice A1 d.ex.length k1) hgn).far (n := w.heap.size + 1) (i := 2) (u := .slice (some ⟨g2, 0, none⟩) d.st.length k2) hgn).ri
      rw [HDD.out]
      refine bodyPost_ret (resD37 _ _ _ _ _ _ _ rfl rfl ((HY5.out.set3 _ _ _).drew)) rfl ⟨_, rfl, ⟨_, _, rfl, ?_, ?_, HFM.out⟩, ?_⟩
      · with_reducible exact (hRe).drew
      · with_reducible exact (hRs).drew
      · with_reducible exact (hBw).drew
  · have HRN := Lib.hid (rv_no (show rvB d n = false by simpa using hv))
    rw [HRN.out.1, HRN.out.2]
    by_cases hvv : vldB d = true
    · rw [szR_yes hvv] at HV
      have hb0 : n < 0 ∨ (0 ≤ n ∧ (d.ex.length : Int) ≤ n) := by
        unfold rvB at hv
        rw [hvv] at hv
        simp at hv
        omega
      obtain ⟨E, ce, rfl⟩ := HE.out.slice
      clear hv hvv
      rcases hb0 with hb0 | ⟨hb0, hb1⟩
      all_goals
        go_enter Try.func37, Try.ntmps37
        go_wp2_with fail
        rw [← HW.out]
        refine HV.out.mono ?_
        rintro e w1 ⟨rfl, hb⟩
        have HB1 := Lib.hid hb
        obtain ⟨x1, x2, x3⟩ := (HX.out.keep HB1.out).c3
        obtain ⟨y1, y2, y3⟩ := (HY.out.keep HB1.out).c3
        obtain ⟨f1, f2, f3⟩ := (HY.out.keep HB1.out).f3
        clear hb
        go_wp2
        have hBw := ((((bt_ HB.out HB1.out).st (b := w.heap.size + 1) (i := 0) (u := .int .i64 0) (by omega)).st (b := w.heap.size + 1) (i := 1) (u := .slice none 0 0) (by omega)).st (b := w.heap.size + 1) (i := 2) (u := .slice none 0 0) (by omega))
        refine bodyPost_ret (resD37 _ _ _ _ _ _ _ rfl rfl ((HY.out.keep HB1.out).set3 _ _ _)) rfl ⟨_, rfl, RD.zero _, hBw⟩
    · rw [szR_no (by simpa using hvv)] at HV
      clear hv hvv
      go_enter Try.func37, Try.ntmps37
      go_wp2_with fail
      rw [← HW.out]
      refine HV.out.mono ?_
      rintro e w1 ⟨rfl, hb⟩
      have HB1 := Lib.hid hb
      obtain ⟨x1, x2, x3⟩ := (HX.out.keep HB1.out).c3
      obtain ⟨y1, y2, y3⟩ := (HY.out.keep HB1.out).c3
      obtain ⟨f1, f2, f3⟩ := (HY.out.keep HB1.out).f3
      clear hb
      go_wp2
      have hBw := ((((bt_ HB.out HB1.out).st (b := w.heap.size + 1) (i := 0) (u := .int .i64 0) (by omega)).st (b := w.heap.size + 1) (i := 1) (u := .slice none 0 0) (by omega)).st (b := w.heap.size + 1) (i := 2) (u := .slice none 0 0) (by omega))
      refine bodyPost_ret (resD37 _ _ _ _ _ _ _ rfl rfl ((HY.out.keep HB1.out).set3 _ _ _)) rfl ⟨_, rfl, RD.zero _, hBw⟩
end Go.Proofs.Ytkgdnlknnjiglaa

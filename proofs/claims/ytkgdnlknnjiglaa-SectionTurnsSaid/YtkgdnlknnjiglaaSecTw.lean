/- The walk of the law SectionTurns. -/
import Derived.Test.YtkgdnlknnjiglaaLawA
import Derived.Test.YtkgdnlknnjiglaaSecTi
import Derived.Test.YtkgdnlknnjiglaaSecTh
import Derived.Test.YtkgdnlknnjiglaaSecTb
import Derived.Test.YtkgdnlknnjiglaaSecY
namespace Go.Proofs.Ytkgdnlknnjiglaa
open Go Go.ChangeShapes Go.WideShapes Go.ChangeAt Go.WideMaps Go.WideElems Go.RowKit Go.ChangeMaps

theorem sameD_c (v1 v2 : Value) (d1 d2 : DS) (w : World) (h1 : RD w v1 d1) (h2 : RD w v2 d2) :
    Calls Try.prog 26 #[v1, v2] w fun e w' => e = .returned (.bool (sameB d1 d2)) ∧ Below w.heap.size w w' :=
  (same_c v1 v2 d1 d2 w h1 h2).mono fun _ _ ⟨h3, h4⟩ => ⟨h3, BD.below h4⟩
theorem sameI_c (v1 v2 : Value) (l : List Int) (w : World) (h1 : RI w v1 l) (h2 : RI w v2 l) :
    Calls Try.prog 23 #[v1, v2] w fun e w' => e = .returned (.bool true) ∧ Below w.heap.size w w' :=
  (sameInts_c v1 v2 l l w h1 h2).mono fun _ _ ⟨h3, n, h4⟩ => ⟨by rw [h3, decide_eq_true rfl], by subst h4; exact below_dn (Below.refl _ _) n⟩
/-- What a call of Transpose or Reverse leaves: T is the descriptor. -/
theorem dpost_open {T : DS} {n : Int} {w w' : World} {e : Ending} (h : DPost T n w e w') : ∃ Ae ce As cs, e = .returned (.tuple #[.agg #[.int .i64 T.b, .slice Ae T.ex.length ce, .slice As T.st.length cs], .int .i64 n]) ∧ RD w' (.agg #[.int .i64 T.b, .slice Ae T.ex.length ce, .slice As T.st.length cs]) T ∧ Below w.heap.size w w' := by
  obtain ⟨v, rfl, hr, hb⟩ := h
  have hr0 := hr
  obtain ⟨ve, vs, rfl, he, hs, -⟩ := hr
  obtain ⟨Ae, ce, rfl⟩ := he.slice
  obtain ⟨As, cs, rfl⟩ := hs.slice
  exact ⟨Ae, ce, As, cs, rfl, hr0, hb⟩

theorem sameT_c (v1 v2 : Value) (d : DS) (w : World) (h1 : RD w v1 d) (h2 : RD w v2 d) :
    Calls Try.prog 26 #[v1, v2] w fun e w' => e = .returned (.bool true) ∧ Below w.heap.size w w' := by
  have := sameD_c v1 v2 d d w h1 h2
  rw [same_iff.2 rfl] at this
  exact this
set_option maxRecDepth 100000 in
set_option maxHeartbeats 8000000 in
theorem sectionTurns_walk (w : World) (v0 : Value) (d : DS) (h0 : RD w v0 d) (n : Int) (hn : Fit n) :
    Calls Try.prog 8 #[v0, .int .i64 n] w fun e w' => e = .returned (.bool true) ∧ Below w.heap.size w w' := by
  have hr := h0
  obtain ⟨ve, vt, rfl, he, ht, hfb⟩ := h0
  obtain ⟨E0, ce0, rfl⟩ := he.slice
  obtain ⟨S0, cs0, rfl⟩ := ht.slice
  have HB := Lib.hid (box_below w (.cells #[.int .i64 d.b, .slice E0 d.ex.length ce0, .slice S0 d.st.length cs0] 31))
  have HXd := Lib.hid (Has.new w [.int .i64 d.b, .slice E0 d.ex.length ce0, .slice S0 d.st.length cs0] 31)
  have HRD := Lib.hid hr
  have HA := Lib.hid Awake_c
  obtain ⟨T, hT⟩ : ∃ T, T = trD d := ⟨_, rfl⟩
  obtain ⟨R, hR⟩ : ∃ R, R = rvD d n := ⟨_, rfl⟩
  have HP := Lib.hid (fun (v : Value) (wx : World) (h : RD wx v d) => Places_c v d wx h)
  have HT1 := Lib.hid (fun (wx : World) (hb : Below w.heap.size w wx) => Transpose_c _ d wx (hr.keep hb))
  have HT2 := Lib.hid (fun (wx : World) (hb : Below w.heap.size w wx) => rTranspose_c _ d wx (hr.keep hb))
  have HR1 := Lib.hid (fun (wx : World) (hb : Below w.heap.size w wx) => Reverse_c _ n d wx (hr.keep hb) hn)
  have HR2 := Lib.hid (fun (wx : World) (hb : Below w.heap.size w wx) => rReverse_c _ n d wx (hr.keep hb) hn)
  have HT3 := Lib.hid (fun (v : Value) (wx : World) (h : RD wx v T) => Transpose_c v T wx h)
  have HR3 := Lib.hid (fun (v : Value) (wx : World) (h : RD wx v R) => Reverse_c v n R wx h hn)
  rw [← hT] at HT1 HT2; rw [← hR] at HR1 HR2
  clear hr he ht hfb
  have hrE : rvE d n = 2 ∨ (rvE d n = 0 ∧ trD (trD d) = trD (trD d) ∧ rvD R n = d ∧ rvE R n = 0 ∧ plE d = 0) := by
    by_cases hv : rvB d n = true
    · have hv2 := hv
      unfold rvB at hv2
      simp only [Bool.and_eq_true, decide_eq_true_eq] at hv2
      obtain ⟨hvv, hn0, hn1⟩ := hv2
      obtain ⟨k, rfl⟩ := Int.eq_ofNat_of_zero_le hn0
      have hk : k < d.ex.length := by omega
      have h1 := rv_yes hvv hk
      have h2 := rv_back hvv hk
      have h3 := rv_yes h2.1 (show k < (rvAt d k).ex.length by rw [h2.2.1]; exact hk)
      refine .inr ⟨h1.2, rfl, ?_, ?_, by unfold plE; rw [if_pos hvv]⟩
      · rw [hR, h1.1, h3.1, h2.2.2]
      · rw [hR, h1.1, h3.2]
    · exact .inl (rv_no (by simpa using hv)).2
  have htE : (trE d = 2 ∨ trE d = 30) ∨ (trE d = 0 ∧ trD T = d ∧ trE T = 0) := by
    rcases hv : vldB d with _ | _
    · exact .inl (.inl (trD_no hv).2)
    · by_cases hl : d.ex.length = 2
      · have h1 := tr_back hv hl
        refine .inr ⟨(trD_yes hv hl).2, ?_, ?_⟩
        · rw [hT]; exact h1.2.2
        · rw [hT]; exact (trD_yes h1.1 h1.2.1).2
      · exact .inl (.inr (trD_rank hv hl).2)
  clear hT hR
  rcases htE with (htE | htE) | ⟨htE, htD, htE2⟩
  · rw [htE] at HT1 HT2
    clear htE
    rcases hrE with hrE | ⟨hrE, -, hrD, hrE2, hpE⟩
    · rw [hrE] at HR1 HR2
      clear hrE
      go_enter Try.func8, Try.ntmps8
      have HC := Lib.hid (HT1.out _ HB.out)
      go_wp2_with fail
      refine HC.out.mono ?_
      intro e w1 hp
      obtain ⟨At, ct, Bt, kt, rfl, hr, hb⟩ := dpost_open hp
      clear hp HC
      have HXd := Lib.hid (HXd.out.keep hb)
      have HB1 := Lib.hid (bt_ HB.out hb)
      have HRt := Lib.hid hr
      clear hb hr
      have HRt := Lib.hid (HRt.out.keep (box_below w1 (.cells #[.int .i64 T.b, .slice At T.ex.length ct, .slice Bt T.st.length kt] 31)))
      have HXd := Lib.hid (HXd.out.keep (box_below w1 (.cells #[.int .i64 T.b, .slice At T.ex.length ct, .slice Bt T.st.length kt] 31)))
      have HXt := Lib.hid (Has.new w1 [.int .i64 T.b, .slice At T.ex.length ct, .slice Bt T.st.length kt] 31)
      have HB1' := Lib.hid (bt_ HB1.out (box_below w1 (.cells #[.int .i64 T.b, .slice At T.ex.length ct, .slice Bt T.st.length kt] 31)))
      obtain ⟨da, db, dc⟩ := HXd.out.c3
      have HC := Lib.hid (HT2.out _ HB1'.out)
      go_wp2_with fail
      refine HC.out.mono ?_
      intro e w2 hp
      obtain ⟨Au, cu, Bu, ku, rfl, hr, hb⟩ := dpost_open hp
      clear hp HC
      have HRt := Lib.hid (HRt.out.keep hb)
      have HXd := Lib.hid (HXd.out.keep hb)
      have HXt := Lib.hid (HXt.out.keep hb)
      have HB2 := Lib.hid (bt_ HB1'.out hb)
      have HRu := Lib.hid hr
      clear hb hr
      have HRt := Lib.hid (HRt.out.keep (box_below w2 (.cells #[.int .i64 T.b, .slice Au T.ex.length cu, .slice Bu T.st.length ku] 31)))
      have HRu := Lib.hid (HRu.out.keep (box_below w2 (.cells #[.int .i64 T.b, .slice Au T.ex.length cu, .slice Bu T.st.length ku] 31)))
      have HXd := Lib.hid (HXd.out.keep (box_below w2 (.cells #[.int .i64 T.b, .slice Au T.ex.length cu, .slice Bu T.st.length ku] 31)))
      have HXt := Lib.hid (HXt.out.keep (box_below w2 (.cells #[.int .i64 T.b, .slice Au T.ex.length cu, .slice Bu T.st.length ku] 31)))
      have HXu := Lib.hid (Has.new w2 [.int .i64 T.b, .slice Au T.ex.length cu, .slice Bu T.st.length ku] 31)
      have HB2' := Lib.hid (bt_ HB2.out (box_below w2 (.cells #[.int .i64 T.b, .slice Au T.ex.length cu, .slice Bu T.st.length ku] 31)))
      obtain ⟨da, db, dc⟩ := HXd.out.c3
      have HC := Lib.hid (HR1.out _ HB2'.out)
      go_wp2_with fail
      refine HC.out.mono ?_
      intro e w3 hp
      obtain ⟨Av, cv, Bv, kv, rfl, hr, hb⟩ := dpost_open hp
      clear hp HC
      have HRt := Lib.hid (HRt.out.keep hb)
      have HRu := Lib.hid (HRu.out.keep hb)
      have HXd := Lib.hid (HXd.out.keep hb)
      have HXt := Lib.hid (HXt.out.keep hb)
      have HXu := Lib.hid (HXu.out.keep hb)
      have HB3 := Lib.hid (bt_ HB2'.out hb)
      have HRv := Lib.hid hr
      clear hb hr
      have HRt := Lib.hid (HRt.out.keep (box_below w3 (.cells #[.int .i64 R.b, .slice Av R.ex.length cv, .slice Bv R.st.length kv] 31)))
      have HRu := Lib.hid (HRu.out.keep (box_below w3 (.cells #[.int .i64 R.b, .slice Av R.ex.length cv, .slice Bv R.st.length kv] 31)))
      have HRv := Lib.hid (HRv.out.keep (box_below w3 (.cells #[.int .i64 R.b, .slice Av R.ex.length cv, .slice Bv R.st.length kv] 31)))
      have HXd := Lib.hid (HXd.out.keep (box_below w3 (.cells #[.int .i64 R.b, .slice Av R.ex.length cv, .slice Bv R.st.length kv] 31)))
      have HXt := Lib.hid (HXt.out.keep (box_below w3 (.cells #[.int .i64 R.b, .slice Av R.ex.length cv, .slice Bv R.st.length kv] 31)))
      have HXu := Lib.hid (HXu.out.keep (box_below w3 (.cells #[.int .i64 R.b, .slice Av R.ex.length cv, .slice Bv R.st.length kv] 31)))
      have HXv := Lib.hid (Has.new w3 [.int .i64 R.b, .slice Av R.ex.length cv, .slice Bv R.st.length kv] 31)
      have HB3' := Lib.hid (bt_ HB3.out (box_below w3 (.cells #[.int .i64 R.b, .slice Av R.ex.length cv, .slice Bv R.st.length kv] 31)))
      obtain ⟨da, db, dc⟩ := HXd.out.c3
      have HC := Lib.hid (HR2.out _ HB3'.out)
      go_wp2_with fail
      refine HC.out.mono ?_
      intro e w4 hp
      obtain ⟨Ax, cx, Bx, kx, rfl, hr, hb⟩ := dpost_open hp
      clear hp HC
      have HRt := Lib.hid (HRt.out.keep hb)
      have HRu := Lib.hid (HRu.out.keep hb)
      have HRv := Lib.hid (HRv.out.keep hb)
      have HXd := Lib.hid (HXd.out.keep hb)
      have HXt := Lib.hid (HXt.out.keep hb)
      have HXu := Lib.hid (HXu.out.keep hb)
      have HXv := Lib.hid (HXv.out.keep hb)
      have HB4 := Lib.hid (bt_ HB3'.out hb)
      have HRx := Lib.hid hr
      clear hb hr
      have HRt := Lib.hid (HRt.out.keep (box_below w4 (.cells #[.int .i64 R.b, .slice Ax R.ex.length cx, .slice Bx R.st.length kx] 31)))
      have HRu := Lib.hid (HRu.out.keep (box_below w4 (.cells #[.int .i64 R.b, .slice Ax R.ex.length cx, .slice Bx R.st.length kx] 31)))
      have HRv := Lib.hid (HRv.out.keep (box_below w4 (.cells #[.int .i64 R.b, .slice Ax R.ex.length cx, .slice Bx R.st.length kx] 31)))
      have HRx := Lib.hid (HRx.out.keep (box_below w4 (.cells #[.int .i64 R.b, .slice Ax R.ex.length cx, .slice Bx R.st.length kx] 31)))
      have HXd := Lib.hid (HXd.out.keep (box_below w4 (.cells #[.int .i64 R.b, .slice Ax R.ex.length cx, .slice Bx R.st.length kx] 31)))
      have HXt := Lib.hid (HXt.out.keep (box_below w4 (.cells #[.int .i64 R.b, .slice Ax R.ex.length cx, .slice Bx R.st.length kx] 31)))
      have HXu := Lib.hid (HXu.out.keep (box_below w4 (.cells #[.int .i64 R.b, .slice Ax R.ex.length cx, .slice Bx R.st.length kx] 31)))
      have HXv := Lib.hid (HXv.out.keep (box_below w4 (.cells #[.int .i64 R.b, .slice Ax R.ex.length cx, .slice Bx R.st.length kx] 31)))
      have HXx := Lib.hid (Has.new w4 [.int .i64 R.b, .slice Ax R.ex.length cx, .slice Bx R.st.length kx] 31)
      have HB4' := Lib.hid (bt_ HB4.out (box_below w4 (.cells #[.int .i64 R.b, .slice Ax R.ex.length cx, .slice Bx R.st.length kx] 31)))
      obtain ⟨da, db, dc⟩ := HXd.out.c3
      obtain ⟨ta, tb, tc⟩ := HXt.out.c3
      obtain ⟨ua, ub, uc⟩ := HXu.out.c3
      have HC := Lib.hid (sameT_c _ _ T _ HRt.out HRu.out)
      go_wp2_with fail
      refine HC.out.mono ?_
      rintro e w5 ⟨rfl, hb⟩
      clear HC
      have HRt := Lib.hid (HRt.out.keep hb)
      have HRu := Lib.hid (HRu.out.keep hb)
      have HRv := Lib.hid (HRv.out.keep hb)
      have HRx := Lib.hid (HRx.out.keep hb)
      have HXd := Lib.hid (HXd.out.keep hb)
      have HXt := Lib.hid (HXt.out.keep hb)
      have HXu := Lib.hid (HXu.out.keep hb)
      have HXv := Lib.hid (HXv.out.keep hb)
      have HXx := Lib.hid (HXx.out.keep hb)
      have HB5 := Lib.hid (bt_ HB4'.out hb)
      clear hb
      obtain ⟨da, db, dc⟩ := HXd.out.c3
      obtain ⟨va, vb, vc⟩ := HXv.out.c3
      obtain ⟨xa, xb, xc⟩ := HXx.out.c3
      have HC := Lib.hid (sameT_c _ _ R _ HRv.out HRx.out)
      go_wp2_with fail
      refine HC.out.mono ?_
      rintro e w6 ⟨rfl, hb⟩
      clear HC
      have HRt := Lib.hid (HRt.out.keep hb)
      have HRu := Lib.hid (HRu.out.keep hb)
      have HRv := Lib.hid (HRv.out.keep hb)
      have HRx := Lib.hid (HRx.out.keep hb)
      have HXd := Lib.hid (HXd.out.keep hb)
      have HXt := Lib.hid (HXt.out.keep hb)
      have HXu := Lib.hid (HXu.out.keep hb)
      have HXv := Lib.hid (HXv.out.keep hb)
      have HXx := Lib.hid (HXx.out.keep hb)
      have HB6 := Lib.hid (bt_ HB5.out hb)
      clear hb
      obtain ⟨da, db, dc⟩ := HXd.out.c3
      obtain ⟨ta, tb, tc⟩ := HXt.out.c3
      obtain ⟨va, vb, vc⟩ := HXv.out.c3
      go_wp2_with fail
      refine (HA.out _).mono ?_
      rintro e w7 ⟨rfl, hb⟩
      have HB7 := Lib.hid (bt_ HB6.out hb)
      clear hb
      go_wp2
      go_ret
      exact ⟨rfl, HB7.out⟩
    · rw [hrE] at HR1 HR2; rw [hrD, hrE2] at HR3; rw [hpE] at HP
      clear hrE
      go_enter Try.func8, Try.ntmps8
      have HC := Lib.hid (HT1.out _ HB.out)
      go_wp2_with fail
      refine HC.out.mono ?_
      intro e w1 hp
      obtain ⟨At, ct, Bt, kt, rfl, hr, hb⟩ := dpost_open hp
      clear hp HC
      have HXd := Lib.hid (HXd.out.keep hb)
      have HB1 := Lib.hid (bt_ HB.out hb)
      have HRt := Lib.hid hr
      clear hb hr
      have HRt := Lib.hid (HRt.out.keep (box_below w1 (.cells #[.int .i64 T.b, .slice At T.ex.length ct, .slice Bt T.st.length kt] 31)))
      have HXd := Lib.hid (HXd.out.keep (box_below w1 (.cells #[.int .i64 T.b, .slice At T.ex.length ct, .slice Bt T.st.length kt] 31)))
      have HXt := Lib.hid (Has.new w1 [.int .i64 T.b, .slice At T.ex.length ct, .slice Bt T.st.length kt] 31)
      have HB1' := Lib.hid (bt_ HB1.out (box_below w1 (.cells #[.int .i64 T.b, .slice At T.ex.length ct, .slice Bt T.st.length kt] 31)))
      obtain ⟨da, db, dc⟩ := HXd.out.c3
      have HC := Lib.hid (HT2.out _ HB1'.out)
      go_wp2_with fail
      refine HC.out.mono ?_
      intro e w2 hp
      obtain ⟨Au, cu, Bu, ku, rfl, hr, hb⟩ := dpost_open hp
      clear hp HC
      have HRt := Lib.hid (HRt.out.keep hb)
      have HXd := Lib.hid (HXd.out.keep hb)
      have HXt := Lib.hid (HXt.out.keep hb)
      have HB2 := Lib.hid (bt_ HB1'.out hb)
      have HRu := Lib.hid hr
      clear hb hr
      have HRt := Lib.hid (HRt.out.keep (box_below w2 (.cells #[.int .i64 T.b, .slice Au T.ex.length cu, .slice Bu T.st.length ku] 31)))
      have HRu := Lib.hid (HRu.out.keep (box_below w2 (.cells #[.int .i64 T.b, .slice Au T.ex.length cu, .slice Bu T.st.length ku] 31)))
      have HXd := Lib.hid (HXd.out.keep (box_below w2 (.cells #[.int .i64 T.b, .slice Au T.ex.length cu, .slice Bu T.st.length ku] 31)))
      have HXt := Lib.hid (HXt.out.keep (box_below w2 (.cells #[.int .i64 T.b, .slice Au T.ex.length cu, .slice Bu T.st.length ku] 31)))
      have HXu := Lib.hid (Has.new w2 [.int .i64 T.b, .slice Au T.ex.length cu, .slice Bu T.st.length ku] 31)
      have HB2' := Lib.hid (bt_ HB2.out (box_below w2 (.cells #[.int .i64 T.b, .slice Au T.ex.length cu, .slice Bu T.st.length ku] 31)))
      obtain ⟨da, db, dc⟩ := HXd.out.c3
      have HC := Lib.hid (HR1.out _ HB2'.out)
      go_wp2_with fail
      refine HC.out.mono ?_
      intro e w3 hp
      obtain ⟨Av, cv, Bv, kv, rfl, hr, hb⟩ := dpost_open hp
      clear hp HC
      have HRt := Lib.hid (HRt.out.keep hb)
      have HRu := Lib.hid (HRu.out.keep hb)
      have HXd := Lib.hid (HXd.out.keep hb)
      have HXt := Lib.hid (HXt.out.keep hb)
      have HXu := Lib.hid (HXu.out.keep hb)
      have HB3 := Lib.hid (bt_ HB2'.out hb)
      have HRv := Lib.hid hr
      clear hb hr
      have HRt := Lib.hid (HRt.out.keep (box_below w3 (.cells #[.int .i64 R.b, .slice Av R.ex.length cv, .slice Bv R.st.length kv] 31)))
      have HRu := Lib.hid (HRu.out.keep (box_below w3 (.cells #[.int .i64 R.b, .slice Av R.ex.length cv, .slice Bv R.st.length kv] 31)))
      have HRv := Lib.hid (HRv.out.keep (box_below w3 (.cells #[.int .i64 R.b, .slice Av R.ex.length cv, .slice Bv R.st.length kv] 31)))
      have HXd := Lib.hid (HXd.out.keep (box_below w3 (.cells #[.int .i64 R.b, .slice Av R.ex.length cv, .slice Bv R.st.length kv] 31)))
      have HXt := Lib.hid (HXt.out.keep (box_below w3 (.cells #[.int .i64 R.b, .slice Av R.ex.length cv, .slice Bv R.st.length kv] 31)))
      have HXu := Lib.hid (HXu.out.keep (box_below w3 (.cells #[.int .i64 R.b, .slice Av R.ex.length cv, .slice Bv R.st.length kv] 31)))
      have HXv := Lib.hid (Has.new w3 [.int .i64 R.b, .slice Av R.ex.length cv, .slice Bv R.st.length kv] 31)
      have HB3' := Lib.hid (bt_ HB3.out (box_below w3 (.cells #[.int .i64 R.b, .slice Av R.ex.length cv, .slice Bv R.st.length kv] 31)))
      obtain ⟨da, db, dc⟩ := HXd.out.c3
      have HC := Lib.hid (HR2.out _ HB3'.out)
      go_wp2_with fail
      refine HC.out.mono ?_
      intro e w4 hp
      obtain ⟨Ax, cx, Bx, kx, rfl, hr, hb⟩ := dpost_open hp
      clear hp HC
      have HRt := Lib.hid (HRt.out.keep hb)
      have HRu := Lib.hid (HRu.out.keep hb)
      have HRv := Lib.hid (HRv.out.keep hb)
      have HXd := Lib.hid (HXd.out.keep hb)
      have HXt := Lib.hid (HXt.out.keep hb)
      have HXu := Lib.hid (HXu.out.keep hb)
      have HXv := Lib.hid (HXv.out.keep hb)
      have HB4 := Lib.hid (bt_ HB3'.out hb)
      have HRx := Lib.hid hr
      clear hb hr
      have HRt := Lib.hid (HRt.out.keep (box_below w4 (.cells #[.int .i64 R.b, .slice Ax R.ex.length cx, .slice Bx R.st.length kx] 31)))
      have HRu := Lib.hid (HRu.out.keep (box_below w4 (.cells #[.int .i64 R.b, .slice Ax R.ex.length cx, .slice Bx R.st.length kx] 31)))
      have HRv := Lib.hid (HRv.out.keep (box_below w4 (.cells #[.int .i64 R.b, .slice Ax R.ex.length cx, .slice Bx R.st.length kx] 31)))
      have HRx := Lib.hid (HRx.out.keep (box_below w4 (.cells #[.int .i64 R.b, .slice Ax R.ex.length cx, .slice Bx R.st.length kx] 31)))
      have HXd := Lib.hid (HXd.out.keep (box_below w4 (.cells #[.int .i64 R.b, .slice Ax R.ex.length cx, .slice Bx R.st.length kx] 31)))
      have HXt := Lib.hid (HXt.out.keep (box_below w4 (.cells #[.int .i64 R.b, .slice Ax R.ex.length cx, .slice Bx R.st.length kx] 31)))
      have HXu := Lib.hid (HXu.out.keep (box_below w4 (.cells #[.int .i64 R.b, .slice Ax R.ex.length cx, .slice Bx R.st.length kx] 31)))
      have HXv := Lib.hid (HXv.out.keep (box_below w4 (.cells #[.int .i64 R.b, .slice Ax R.ex.length cx, .slice Bx R.st.length kx] 31)))
      have HXx := Lib.hid (Has.new w4 [.int .i64 R.b, .slice Ax R.ex.length cx, .slice Bx R.st.length kx] 31)
      have HB4' := Lib.hid (bt_ HB4.out (box_below w4 (.cells #[.int .i64 R.b, .slice Ax R.ex.length cx, .slice Bx R.st.length kx] 31)))
      obtain ⟨da, db, dc⟩ := HXd.out.c3
      obtain ⟨ta, tb, tc⟩ := HXt.out.c3
      obtain ⟨ua, ub, uc⟩ := HXu.out.c3
      have HC := Lib.hid (sameT_c _ _ T _ HRt.out HRu.out)
      go_wp2_with fail
      refine HC.out.mono ?_
      rintro e w5 ⟨rfl, hb⟩
      clear HC
      have HRt := Lib.hid (HRt.out.keep hb)
      have HRu := Lib.hid (HRu.out.keep hb)
      have HRv := Lib.hid (HRv.out.keep hb)
      have HRx := Lib.hid (HRx.out.keep hb)
      have HXd := Lib.hid (HXd.out.keep hb)
      have HXt := Lib.hid (HXt.out.keep hb)
      have HXu := Lib.hid (HXu.out.keep hb)
      have HXv := Lib.hid (HXv.out.keep hb)
      have HXx := Lib.hid (HXx.out.keep hb)
      have HB5 := Lib.hid (bt_ HB4'.out hb)
      clear hb
      obtain ⟨da, db, dc⟩ := HXd.out.c3
      obtain ⟨va, vb, vc⟩ := HXv.out.c3
      obtain ⟨xa, xb, xc⟩ := HXx.out.c3
      have HC := Lib.hid (sameT_c _ _ R _ HRv.out HRx.out)
      go_wp2_with fail
      refine HC.out.mono ?_
      rintro e w6 ⟨rfl, hb⟩
      clear HC
      have HRt := Lib.hid (HRt.out.keep hb)
      have HRu := Lib.hid (HRu.out.keep hb)
      have HRv := Lib.hid (HRv.out.keep hb)
      have HRx := Lib.hid (HRx.out.keep hb)
      have HXd := Lib.hid (HXd.out.keep hb)
      have HXt := Lib.hid (HXt.out.keep hb)
      have HXu := Lib.hid (HXu.out.keep hb)
      have HXv := Lib.hid (HXv.out.keep hb)
      have HXx := Lib.hid (HXx.out.keep hb)
      have HB6 := Lib.hid (bt_ HB5.out hb)
      clear hb
      obtain ⟨da, db, dc⟩ := HXd.out.c3
      obtain ⟨ta, tb, tc⟩ := HXt.out.c3
      obtain ⟨va, vb, vc⟩ := HXv.out.c3
      have HC := Lib.hid (HR3.out _ _ HRv.out)
      go_wp2_with fail
      refine HC.out.mono ?_
      intro e w7 hp
      obtain ⟨Az, cz, Bz, kz, rfl, hr, hb⟩ := dpost_open hp
      clear hp HC
      have HRt := Lib.hid (HRt.out.keep hb)
      have HRu := Lib.hid (HRu.out.keep hb)
      have HRv := Lib.hid (HRv.out.keep hb)
      have HRx := Lib.hid (HRx.out.keep hb)
      have HXd := Lib.hid (HXd.out.keep hb)
      have HXt := Lib.hid (HXt.out.keep hb)
      have HXu := Lib.hid (HXu.out.keep hb)
      have HXv := Lib.hid (HXv.out.keep hb)
      have HXx := Lib.hid (HXx.out.keep hb)
      have HB7 := Lib.hid (bt_ HB6.out hb)
      have HRz := Lib.hid hr
      clear hb hr
      have HRt := Lib.hid (HRt.out.keep (box_below w7 (.cells #[.int .i64 d.b, .slice Az d.ex.length cz, .slice Bz d.st.length kz] 31)))
      have HRu := Lib.hid (HRu.out.keep (box_below w7 (.cells #[.int .i64 d.b, .slice Az d.ex.length cz, .slice Bz d.st.length kz] 31)))
      have HRv := Lib.hid (HRv.out.keep (box_below w7 (.cells #[.int .i64 d.b, .slice Az d.ex.length cz, .slice Bz d.st.length kz] 31)))
      have HRx := Lib.hid (HRx.out.keep (box_below w7 (.cells #[.int .i64 d.b, .slice Az d.ex.length cz, .slice Bz d.st.length kz] 31)))
      have HRz := Lib.hid (HRz.out.keep (box_below w7 (.cells #[.int .i64 d.b, .slice Az d.ex.length cz, .slice Bz d.st.length kz] 31)))
      have HXd := Lib.hid (HXd.out.keep (box_below w7 (.cells #[.int .i64 d.b, .slice Az d.ex.length cz, .slice Bz d.st.length kz] 31)))
      have HXt := Lib.hid (HXt.out.keep (box_below w7 (.cells #[.int .i64 d.b, .slice Az d.ex.length cz, .slice Bz d.st.length kz] 31)))
      have HXu := Lib.hid (HXu.out.keep (box_below w7 (.cells #[.int .i64 d.b, .slice Az d.ex.length cz, .slice Bz d.st.length kz] 31)))
      have HXv := Lib.hid (HXv.out.keep (box_below w7 (.cells #[.int .i64 d.b, .slice Az d.ex.length cz, .slice Bz d.st.length kz] 31)))
      have HXx := Lib.hid (HXx.out.keep (box_below w7 (.cells #[.int .i64 d.b, .slice Az d.ex.length cz, .slice Bz d.st.length kz] 31)))
      have HXz := Lib.hid (Has.new w7 [.int .i64 d.b, .slice Az d.ex.length cz, .slice Bz d.st.length kz] 31)
      have HB7' := Lib.hid (bt_ HB7.out (box_below w7 (.cells #[.int .i64 d.b, .slice Az d.ex.length cz, .slice Bz d.st.length kz] 31)))
      obtain ⟨da, db, dc⟩ := HXd.out.c3
      obtain ⟨za, zb, zc⟩ := HXz.out.c3
      have HC := Lib.hid (HP.out _ _ (HRD.out.keep HB7'.out))
      go_wp2_with fail
      refine HC.out.mono ?_
      rintro e w8 ⟨vl, rfl, hi, hb⟩
      clear HC
      have HRt := Lib.hid (HRt.out.keep hb)
      have HRu := Lib.hid (HRu.out.keep hb)
      have HRv := Lib.hid (HRv.out.keep hb)
      have HRx := Lib.hid (HRx.out.keep hb)
      have HRz := Lib.hid (HRz.out.keep hb)
      have HXd := Lib.hid (HXd.out.keep hb)
      have HXt := Lib.hid (HXt.out.keep hb)
      have HXu := Lib.hid (HXu.out.keep hb)
      have HXv := Lib.hid (HXv.out.keep hb)
      have HXx := Lib.hid (HXx.out.keep hb)
      have HXz := Lib.hid (HXz.out.keep hb)
      have HB8 := Lib.hid (bt_ HB7'.out hb)
      have HIl := Lib.hid hi
      obtain ⟨Al, cl, rfl⟩ := hi.slice
      clear hb hi
      obtain ⟨da, db, dc⟩ := HXd.out.c3
      obtain ⟨za, zb, zc⟩ := HXz.out.c3
      have HC := Lib.hid (HP.out _ _ HRz.out)
      go_wp2_with fail
      refine HC.out.mono ?_
      rintro e w9 ⟨vm, rfl, hi, hb⟩
      clear HC
      have HRt := Lib.hid (HRt.out.keep hb)
      have HRu := Lib.hid (HRu.out.keep hb)
      have HRv := Lib.hid (HRv.out.keep hb)
      have HRx := Lib.hid (HRx.out.keep hb)
      have HRz := Lib.hid (HRz.out.keep hb)
      have HXd := Lib.hid (HXd.out.keep hb)
      have HXt := Lib.hid (HXt.out.keep hb)
      have HXu := Lib.hid (HXu.out.keep hb)
      have HXv := Lib.hid (HXv.out.keep hb)
      have HXx := Lib.hid (HXx.out.keep hb)
      have HXz := Lib.hid (HXz.out.keep hb)
      have HIl := Lib.hid (HIl.out.keep hb)
      have HB9 := Lib.hid (bt_ HB8.out hb)
      have HIm := Lib.hid hi
      obtain ⟨Am, cm, rfl⟩ := hi.slice
      clear hb hi
      obtain ⟨da, db, dc⟩ := HXd.out.c3
      obtain ⟨za, zb, zc⟩ := HXz.out.c3
      have HRD8 := Lib.hid (HRD.out.keep HB9.out)
      have HC := Lib.hid (sameT_c _ _ d _ HRz.out HRD8.out)
      go_wp2_with fail
      refine HC.out.mono ?_
      rintro e w10 ⟨rfl, hb⟩
      clear HC
      have HRt := Lib.hid (HRt.out.keep hb)
      have HRu := Lib.hid (HRu.out.keep hb)
      have HRv := Lib.hid (HRv.out.keep hb)
      have HRx := Lib.hid (HRx.out.keep hb)
      have HRz := Lib.hid (HRz.out.keep hb)
      have HXd := Lib.hid (HXd.out.keep hb)
      have HXt := Lib.hid (HXt.out.keep hb)
      have HXu := Lib.hid (HXu.out.keep hb)
      have HXv := Lib.hid (HXv.out.keep hb)
      have HXx := Lib.hid (HXx.out.keep hb)
      have HXz := Lib.hid (HXz.out.keep hb)
      have HIl := Lib.hid (HIl.out.keep hb)
      have HIm := Lib.hid (HIm.out.keep hb)
      have HB10 := Lib.hid (bt_ HB9.out hb)
      clear hb
      have HC := Lib.hid (sameI_c _ _ (plL d) _ HIl.out HIm.out)
      go_wp2_with fail
      refine HC.out.mono ?_
      rintro e w11 ⟨rfl, hb⟩
      clear HC
      have HRt := Lib.hid (HRt.out.keep hb)
      have HRu := Lib.hid (HRu.out.keep hb)
      have HRv := Lib.hid (HRv.out.keep hb)
      have HRx := Lib.hid (HRx.out.keep hb)
      have HRz := Lib.hid (HRz.out.keep hb)
      have HXd := Lib.hid (HXd.out.keep hb)
      have HXt := Lib.hid (HXt.out.keep hb)
      have HXu := Lib.hid (HXu.out.keep hb)
      have HXv := Lib.hid (HXv.out.keep hb)
      have HXx := Lib.hid (HXx.out.keep hb)
      have HXz := Lib.hid (HXz.out.keep hb)
      have HIl := Lib.hid (HIl.out.keep hb)
      have HIm := Lib.hid (HIm.out.keep hb)
      have HB11 := Lib.hid (bt_ HB10.out hb)
      clear hb
      go_wp2_with fail
      refine (HA.out _).mono ?_
      rintro e w12 ⟨rfl, hb⟩
      have HB12 := Lib.hid (bt_ HB11.out hb)
      clear hb
      go_wp2
      go_ret
      exact ⟨rfl, HB12.out⟩
  · rw [htE] at HT1 HT2
    clear htE
    rcases hrE with hrE | ⟨hrE, -, hrD, hrE2, hpE⟩
    · rw [hrE] at HR1 HR2
      clear hrE
      go_enter Try.func8, Try.ntmps8
      have HC := Lib.hid (HT1.out _ HB.out)
      go_wp2_with fail
      refine HC.out.mono ?_
      intro e w1 hp
      obtain ⟨At, ct, Bt, kt, rfl, hr, hb⟩ := dpost_open hp
      clear hp HC
      have HXd := Lib.hid (HXd.out.keep hb)
      have HB1 := Lib.hid (bt_ HB.out hb)
      have HRt := Lib.hid hr
      clear hb hr
      have HRt := Lib.hid (HRt.out.keep (box_below w1 (.cells #[.int .i64 T.b, .slice At T.ex.length ct, .slice Bt T.st.length kt] 31)))
      have HXd := Lib.hid (HXd.out.keep (box_below w1 (.cells #[.int .i64 T.b, .slice At T.ex.length ct, .slice Bt T.st.length kt] 31)))
      have HXt := Lib.hid (Has.new w1 [.int .i64 T.b, .slice At T.ex.length ct, .slice Bt T.st.length kt] 31)
      have HB1' := Lib.hid (bt_ HB1.out (box_below w1 (.cells #[.int .i64 T.b, .slice At T.ex.length ct, .slice Bt T.st.length kt] 31)))
      obtain ⟨da, db, dc⟩ := HXd.out.c3
      have HC := Lib.hid (HT2.out _ HB1'.out)
      go_wp2_with fail
      refine HC.out.mono ?_
      intro e w2 hp
      obtain ⟨Au, cu, Bu, ku, rfl, hr, hb⟩ := dpost_open hp
      clear hp HC
      have HRt := Lib.hid (HRt.out.keep hb)
      have HXd := Lib.hid (HXd.out.keep hb)
      have HXt := Lib.hid (HXt.out.keep hb)
      have HB2 := Lib.hid (bt_ HB1'.out hb)
      have HRu := Lib.hid hr
      clear hb hr
      have HRt := Lib.hid (HRt.out.keep (box_below w2 (.cells #[.int .i64 T.b, .slice Au T.ex.length cu, .slice Bu T.st.length ku] 31)))
      have HRu := Lib.hid (HRu.out.keep (box_below w2 (.cells #[.int .i64 T.b, .slice Au T.ex.length cu, .slice Bu T.st.length ku] 31)))
      have HXd := Lib.hid (HXd.out.keep (box_below w2 (.cells #[.int .i64 T.b, .slice Au T.ex.length cu, .slice Bu T.st.length ku] 31)))
      have HXt := Lib.hid (HXt.out.keep (box_below w2 (.cells #[.int .i64 T.b, .slice Au T.ex.length cu, .slice Bu T.st.length ku] 31)))
      have HXu := Lib.hid (Has.new w2 [.int .i64 T.b, .slice Au T.ex.length cu, .slice Bu T.st.length ku] 31)
      have HB2' := Lib.hid (bt_ HB2.out (box_below w2 (.cells #[.int .i64 T.b, .slice Au T.ex.length cu, .slice Bu T.st.length ku] 31)))
      obtain ⟨da, db, dc⟩ := HXd.out.c3
      have HC := Lib.hid (HR1.out _ HB2'.out)
      go_wp2_with fail
      refine HC.out.mono ?_
      intro e w3 hp
      obtain ⟨Av, cv, Bv, kv, rfl, hr, hb⟩ := dpost_open hp
      clear hp HC
      have HRt := Lib.hid (HRt.out.keep hb)
      have HRu := Lib.hid (HRu.out.keep hb)
      have HXd := Lib.hid (HXd.out.keep hb)
      have HXt := Lib.hid (HXt.out.keep hb)
      have HXu := Lib.hid (HXu.out.keep hb)
      have HB3 := Lib.hid (bt_ HB2'.out hb)
      have HRv := Lib.hid hr
      clear hb hr
      have HRt := Lib.hid (HRt.out.keep (box_below w3 (.cells #[.int .i64 R.b, .slice Av R.ex.length cv, .slice Bv R.st.length kv] 31)))
      have HRu := Lib.hid (HRu.out.keep (box_below w3 (.cells #[.int .i64 R.b, .slice Av R.ex.length cv, .slice Bv R.st.length kv] 31)))
      have HRv := Lib.hid (HRv.out.keep (box_below w3 (.cells #[.int .i64 R.b, .slice Av R.ex.length cv, .slice Bv R.st.length kv] 31)))
      have HXd := Lib.hid (HXd.out.keep (box_below w3 (.cells #[.int .i64 R.b, .slice Av R.ex.length cv, .slice Bv R.st.length kv] 31)))
      have HXt := Lib.hid (HXt.out.keep (box_below w3 (.cells #[.int .i64 R.b, .slice Av R.ex.length cv, .slice Bv R.st.length kv] 31)))
      have HXu := Lib.hid (HXu.out.keep (box_below w3 (.cells #[.int .i64 R.b, .slice Av R.ex.length cv, .slice Bv R.st.length kv] 31)))
      have HXv := Lib.hid (Has.new w3 [.int .i64 R.b, .slice Av R.ex.length cv, .slice Bv R.st.length kv] 31)
      have HB3' := Lib.hid (bt_ HB3.out (box_below w3 (.cells #[.int .i64 R.b, .slice Av R.ex.length cv, .slice Bv R.st.length kv] 31)))
      obtain ⟨da, db, dc⟩ := HXd.out.c3
      have HC := Lib.hid (HR2.out _ HB3'.out)
      go_wp2_with fail
      refine HC.out.mono ?_
      intro e w4 hp
      obtain ⟨Ax, cx, Bx, kx, rfl, hr, hb⟩ := dpost_open hp
      clear hp HC
      have HRt := Lib.hid (HRt.out.keep hb)
      have HRu := Lib.hid (HRu.out.keep hb)
      have HRv := Lib.hid (HRv.out.keep hb)
      have HXd := Lib.hid (HXd.out.keep hb)
      have HXt := Lib.hid (HXt.out.keep hb)
      have HXu := Lib.hid (HXu.out.keep hb)
      have HXv := Lib.hid (HXv.out.keep hb)
      have HB4 := Lib.hid (bt_ HB3'.out hb)
      have HRx := Lib.hid hr
      clear hb hr
      have HRt := Lib.hid (HRt.out.keep (box_below w4 (.cells #[.int .i64 R.b, .slice Ax R.ex.length cx, .slice Bx R.st.length kx] 31)))
      have HRu := Lib.hid (HRu.out.keep (box_below w4 (.cells #[.int .i64 R.b, .slice Ax R.ex.length cx, .slice Bx R.st.length kx] 31)))
      have HRv := Lib.hid (HRv.out.keep (box_below w4 (.cells #[.int .i64 R.b, .slice Ax R.ex.length cx, .slice Bx R.st.length kx] 31)))
      have HRx := Lib.hid (HRx.out.keep (box_below w4 (.cells #[.int .i64 R.b, .slice Ax R.ex.length cx, .slice Bx R.st.length kx] 31)))
      have HXd := Lib.hid (HXd.out.keep (box_below w4 (.cells #[.int .i64 R.b, .slice Ax R.ex.length cx, .slice Bx R.st.length kx] 31)))
      have HXt := Lib.hid (HXt.out.keep (box_below w4 (.cells #[.int .i64 R.b, .slice Ax R.ex.length cx, .slice Bx R.st.length kx] 31)))
      have HXu := Lib.hid (HXu.out.keep (box_below w4 (.cells #[.int .i64 R.b, .slice Ax R.ex.length cx, .slice Bx R.st.length kx] 31)))
      have HXv := Lib.hid (HXv.out.keep (box_below w4 (.cells #[.int .i64 R.b, .slice Ax R.ex.length cx, .slice Bx R.st.length kx] 31)))
      have HXx := Lib.hid (Has.new w4 [.int .i64 R.b, .slice Ax R.ex.length cx, .slice Bx R.st.length kx] 31)
      have HB4' := Lib.hid (bt_ HB4.out (box_below w4 (.cells #[.int .i64 R.b, .slice Ax R.ex.length cx, .slice Bx R.st.length kx] 31)))
      obtain ⟨da, db, dc⟩ := HXd.out.c3
      obtain ⟨ta, tb, tc⟩ := HXt.out.c3
      obtain ⟨ua, ub, uc⟩ := HXu.out.c3
      have HC := Lib.hid (sameT_c _ _ T _ HRt.out HRu.out)
      go_wp2_with fail
      refine HC.out.mono ?_
      rintro e w5 ⟨rfl, hb⟩
      clear HC
      have HRt := Lib.hid (HRt.out.keep hb)
      have HRu := Lib.hid (HRu.out.keep hb)
      have HRv := Lib.hid (HRv.out.keep hb)
      have HRx := Lib.hid (HRx.out.keep hb)
      have HXd := Lib.hid (HXd.out.keep hb)
      have HXt := Lib.hid (HXt.out.keep hb)
      have HXu := Lib.hid (HXu.out.keep hb)
      have HXv := Lib.hid (HXv.out.keep hb)
      have HXx := Lib.hid (HXx.out.keep hb)
      have HB5 := Lib.hid (bt_ HB4'.out hb)
      clear hb
      obtain ⟨da, db, dc⟩ := HXd.out.c3
      obtain ⟨va, vb, vc⟩ := HXv.out.c3
      obtain ⟨xa, xb, xc⟩ := HXx.out.c3
      have HC := Lib.hid (sameT_c _ _ R _ HRv.out HRx.out)
      go_wp2_with fail
      refine HC.out.mono ?_
      rintro e w6 ⟨rfl, hb⟩
      clear HC
      have HRt := Lib.hid (HRt.out.keep hb)
      have HRu := Lib.hid (HRu.out.keep hb)
      have HRv := Lib.hid (HRv.out.keep hb)
      have HRx := Lib.hid (HRx.out.keep hb)
      have HXd := Lib.hid (HXd.out.keep hb)
      have HXt := Lib.hid (HXt.out.keep hb)
      have HXu := Lib.hid (HXu.out.keep hb)
      have HXv := Lib.hid (HXv.out.keep hb)
      have HXx := Lib.hid (HXx.out.keep hb)
      have HB6 := Lib.hid (bt_ HB5.out hb)
      clear hb
      obtain ⟨da, db, dc⟩ := HXd.out.c3
      obtain ⟨ta, tb, tc⟩ := HXt.out.c3
      obtain ⟨va, vb, vc⟩ := HXv.out.c3
      go_wp2_with fail
      refine (HA.out _).mono ?_
      rintro e w7 ⟨rfl, hb⟩
      have HB7 := Lib.hid (bt_ HB6.out hb)
      clear hb
      go_wp2
      go_ret
      exact ⟨rfl, HB7.out⟩
    · rw [hrE] at HR1 HR2; rw [hrD, hrE2] at HR3; rw [hpE] at HP
      clear hrE
      go_enter Try.func8, Try.ntmps8
      have HC := Lib.hid (HT1.out _ HB.out)
      go_wp2_with fail
      refine HC.out.mono ?_
      intro e w1 hp
      obtain ⟨At, ct, Bt, kt, rfl, hr, hb⟩ := dpost_open hp
      clear hp HC
      have HXd := Lib.hid (HXd.out.keep hb)
      have HB1 := Lib.hid (bt_ HB.out hb)
      have HRt := Lib.hid hr
      clear hb hr
      have HRt := Lib.hid (HRt.out.keep (box_below w1 (.cells #[.int .i64 T.b, .slice At T.ex.length ct, .slice Bt T.st.length kt] 31)))
      have HXd := Lib.hid (HXd.out.keep (box_below w1 (.cells #[.int .i64 T.b, .slice At T.ex.length ct, .slice Bt T.st.length kt] 31)))
      have HXt := Lib.hid (Has.new w1 [.int .i64 T.b, .slice At T.ex.length ct, .slice Bt T.st.length kt] 31)
      have HB1' := Lib.hid (bt_ HB1.out (box_below w1 (.cells #[.int .i64 T.b, .slice At T.ex.length ct, .slice Bt T.st.length kt] 31)))
      obtain ⟨da, db, dc⟩ := HXd.out.c3
      have HC := Lib.hid (HT2.out _ HB1'.out)
      go_wp2_with fail
      refine HC.out.mono ?_
      intro e w2 hp
      obtain ⟨Au, cu, Bu, ku, rfl, hr, hb⟩ := dpost_open hp
      clear hp HC
      have HRt := Lib.hid (HRt.out.keep hb)
      have HXd := Lib.hid (HXd.out.keep hb)
      have HXt := Lib.hid (HXt.out.keep hb)
      have HB2 := Lib.hid (bt_ HB1'.out hb)
      have HRu := Lib.hid hr
      clear hb hr
      have HRt := Lib.hid (HRt.out.keep (box_below w2 (.cells #[.int .i64 T.b, .slice Au T.ex.length cu, .slice Bu T.st.length ku] 31)))
      have HRu := Lib.hid (HRu.out.keep (box_below w2 (.cells #[.int .i64 T.b, .slice Au T.ex.length cu, .slice Bu T.st.length ku] 31)))
      have HXd := Lib.hid (HXd.out.keep (box_below w2 (.cells #[.int .i64 T.b, .slice Au T.ex.length cu, .slice Bu T.st.length ku] 31)))
      have HXt := Lib.hid (HXt.out.keep (box_below w2 (.cells #[.int .i64 T.b, .slice Au T.ex.length cu, .slice Bu T.st.length ku] 31)))
      have HXu := Lib.hid (Has.new w2 [.int .i64 T.b, .slice Au T.ex.length cu, .slice Bu T.st.length ku] 31)
      have HB2' := Lib.hid (bt_ HB2.out (box_below w2 (.cells #[.int .i64 T.b, .slice Au T.ex.length cu, .slice Bu T.st.length ku] 31)))
      obtain ⟨da, db, dc⟩ := HXd.out.c3
      have HC := Lib.hid (HR1.out _ HB2'.out)
      go_wp2_with fail
      refine HC.out.mono ?_
      intro e w3 hp
      obtain ⟨Av, cv, Bv, kv, rfl, hr, hb⟩ := dpost_open hp
      clear hp HC
      have HRt := Lib.hid (HRt.out.keep hb)
      have HRu := Lib.hid (HRu.out.keep hb)
      have HXd := Lib.hid (HXd.out.keep hb)
      have HXt := Lib.hid (HXt.out.keep hb)
      have HXu := Lib.hid (HXu.out.keep hb)
      have HB3 := Lib.hid (bt_ HB2'.out hb)
      have HRv := Lib.hid hr
      clear hb hr
      have HRt := Lib.hid (HRt.out.keep (box_below w3 (.cells #[.int .i64 R.b, .slice Av R.ex.length cv, .slice Bv R.st.length kv] 31)))
      have HRu := Lib.hid (HRu.out.keep (box_below w3 (.cells #[.int .i64 R.b, .slice Av R.ex.length cv, .slice Bv R.st.length kv] 31)))
      have HRv := Lib.hid (HRv.out.keep (box_below w3 (.cells #[.int .i64 R.b, .slice Av R.ex.length cv, .slice Bv R.st.length kv] 31)))
      have HXd := Lib.hid (HXd.out.keep (box_below w3 (.cells #[.int .i64 R.b, .slice Av R.ex.length cv, .slice Bv R.st.length kv] 31)))
      have HXt := Lib.hid (HXt.out.keep (box_below w3 (.cells #[.int .i64 R.b, .slice Av R.ex.length cv, .slice Bv R.st.length kv] 31)))
      have HXu := Lib.hid (HXu.out.keep (box_below w3 (.cells #[.int .i64 R.b, .slice Av R.ex.length cv, .slice Bv R.st.length kv] 31)))
      have HXv := Lib.hid (Has.new w3 [.int .i64 R.b, .slice Av R.ex.length cv, .slice Bv R.st.length kv] 31)
      have HB3' := Lib.hid (bt_ HB3.out (box_below w3 (.cells #[.int .i64 R.b, .slice Av R.ex.length cv, .slice Bv R.st.length kv] 31)))
      obtain ⟨da, db, dc⟩ := HXd.out.c3
      have HC := Lib.hid (HR2.out _ HB3'.out)
      go_wp2_with fail
      refine HC.out.mono ?_
      intro e w4 hp
      obtain ⟨Ax, cx, Bx, kx, rfl, hr, hb⟩ := dpost_open hp
      clear hp HC
      have HRt := Lib.hid (HRt.out.keep hb)
      have HRu := Lib.hid (HRu.out.keep hb)
      have HRv := Lib.hid (HRv.out.keep hb)
      have HXd := Lib.hid (HXd.out.keep hb)
      have HXt := Lib.hid (HXt.out.keep hb)
      have HXu := Lib.hid (HXu.out.keep hb)
      have HXv := Lib.hid (HXv.out.keep hb)
      have HB4 := Lib.hid (bt_ HB3'.out hb)
      have HRx := Lib.hid hr
      clear hb hr
      have HRt := Lib.hid (HRt.out.keep (box_below w4 (.cells #[.int .i64 R.b, .slice Ax R.ex.length cx, .slice Bx R.st.length kx] 31)))
      have HRu := Lib.hid (HRu.out.keep (box_below w4 (.cells #[.int .i64 R.b, .slice Ax R.ex.length cx, .slice Bx R.st.length kx] 31)))
      have HRv := Lib.hid (HRv.out.keep (box_below w4 (.cells #[.int .i64 R.b, .slice Ax R.ex.length cx, .slice Bx R.st.length kx] 31)))
      have HRx := Lib.hid (HRx.out.keep (box_below w4 (.cells #[.int .i64 R.b, .slice Ax R.ex.length cx, .slice Bx R.st.length kx] 31)))
      have HXd := Lib.hid (HXd.out.keep (box_below w4 (.cells #[.int .i64 R.b, .slice Ax R.ex.length cx, .slice Bx R.st.length kx] 31)))
      have HXt := Lib.hid (HXt.out.keep (box_below w4 (.cells #[.int .i64 R.b, .slice Ax R.ex.length cx, .slice Bx R.st.length kx] 31)))
      have HXu := Lib.hid (HXu.out.keep (box_below w4 (.cells #[.int .i64 R.b, .slice Ax R.ex.length cx, .slice Bx R.st.length kx] 31)))
      have HXv := Lib.hid (HXv.out.keep (box_below w4 (.cells #[.int .i64 R.b, .slice Ax R.ex.length cx, .slice Bx R.st.length kx] 31)))
      have HXx := Lib.hid (Has.new w4 [.int .i64 R.b, .slice Ax R.ex.length cx, .slice Bx R.st.length kx] 31)
      have HB4' := Lib.hid (bt_ HB4.out (box_below w4 (.cells #[.int .i64 R.b, .slice Ax R.ex.length cx, .slice Bx R.st.length kx] 31)))
      obtain ⟨da, db, dc⟩ := HXd.out.c3
      obtain ⟨ta, tb, tc⟩ := HXt.out.c3
      obtain ⟨ua, ub, uc⟩ := HXu.out.c3
      have HC := Lib.hid (sameT_c _ _ T _ HRt.out HRu.out)
      go_wp2_with fail
      refine HC.out.mono ?_
      rintro e w5 ⟨rfl, hb⟩
      clear HC
      have HRt := Lib.hid (HRt.out.keep hb)
      have HRu := Lib.hid (HRu.out.keep hb)
      have HRv := Lib.hid (HRv.out.keep hb)
      have HRx := Lib.hid (HRx.out.keep hb)
      have HXd := Lib.hid (HXd.out.keep hb)
      have HXt := Lib.hid (HXt.out.keep hb)
      have HXu := Lib.hid (HXu.out.keep hb)
      have HXv := Lib.hid (HXv.out.keep hb)
      have HXx := Lib.hid (HXx.out.keep hb)
      have HB5 := Lib.hid (bt_ HB4'.out hb)
      clear hb
      obtain ⟨da, db, dc⟩ := HXd.out.c3
      obtain ⟨va, vb, vc⟩ := HXv.out.c3
      obtain ⟨xa, xb, xc⟩ := HXx.out.c3
      have HC := Lib.hid (sameT_c _ _ R _ HRv.out HRx.out)
      go_wp2_with fail
      refine HC.out.mono ?_
      rintro e w6 ⟨rfl, hb⟩
      clear HC
      have HRt := Lib.hid (HRt.out.keep hb)
      have HRu := Lib.hid (HRu.out.keep hb)
      have HRv := Lib.hid (HRv.out.keep hb)
      have HRx := Lib.hid (HRx.out.keep hb)
      have HXd := Lib.hid (HXd.out.keep hb)
      have HXt := Lib.hid (HXt.out.keep hb)
      have HXu := Lib.hid (HXu.out.keep hb)
      have HXv := Lib.hid (HXv.out.keep hb)
      have HXx := Lib.hid (HXx.out.keep hb)
      have HB6 := Lib.hid (bt_ HB5.out hb)
      clear hb
      obtain ⟨da, db, dc⟩ := HXd.out.c3
      obtain ⟨ta, tb, tc⟩ := HXt.out.c3
      obtain ⟨va, vb, vc⟩ := HXv.out.c3
      have HC := Lib.hid (HR3.out _ _ HRv.out)
      go_wp2_with fail
      refine HC.out.mono ?_
      intro e w7 hp
      obtain ⟨Az, cz, Bz, kz, rfl, hr, hb⟩ := dpost_open hp
      clear hp HC
      have HRt := Lib.hid (HRt.out.keep hb)
      have HRu := Lib.hid (HRu.out.keep hb)
      have HRv := Lib.hid (HRv.out.keep hb)
      have HRx := Lib.hid (HRx.out.keep hb)
      have HXd := Lib.hid (HXd.out.keep hb)
      have HXt := Lib.hid (HXt.out.keep hb)
      have HXu := Lib.hid (HXu.out.keep hb)
      have HXv := Lib.hid (HXv.out.keep hb)
      have HXx := Lib.hid (HXx.out.keep hb)
      have HB7 := Lib.hid (bt_ HB6.out hb)
      have HRz := Lib.hid hr
      clear hb hr
      have HRt := Lib.hid (HRt.out.keep (box_below w7 (.cells #[.int .i64 d.b, .slice Az d.ex.length cz, .slice Bz d.st.length kz] 31)))
      have HRu := Lib.hid (HRu.out.keep (box_below w7 (.cells #[.int .i64 d.b, .slice Az d.ex.length cz, .slice Bz d.st.length kz] 31)))
      have HRv := Lib.hid (HRv.out.keep (box_below w7 (.cells #[.int .i64 d.b, .slice Az d.ex.length cz, .slice Bz d.st.length kz] 31)))
      have HRx := Lib.hid (HRx.out.keep (box_below w7 (.cells #[.int .i64 d.b, .slice Az d.ex.length cz, .slice Bz d.st.length kz] 31)))
      have HRz := Lib.hid (HRz.out.keep (box_below w7 (.cells #[.int .i64 d.b, .slice Az d.ex.length cz, .slice Bz d.st.length kz] 31)))
      have HXd := Lib.hid (HXd.out.keep (box_below w7 (.cells #[.int .i64 d.b, .slice Az d.ex.length cz, .slice Bz d.st.length kz] 31)))
      have HXt := Lib.hid (HXt.out.keep (box_below w7 (.cells #[.int .i64 d.b, .slice Az d.ex.length cz, .slice Bz d.st.length kz] 31)))
      have HXu := Lib.hid (HXu.out.keep (box_below w7 (.cells #[.int .i64 d.b, .slice Az d.ex.length cz, .slice Bz d.st.length kz] 31)))
      have HXv := Lib.hid (HXv.out.keep (box_below w7 (.cells #[.int .i64 d.b, .slice Az d.ex.length cz, .slice Bz d.st.length kz] 31)))
      have HXx := Lib.hid (HXx.out.keep (box_below w7 (.cells #[.int .i64 d.b, .slice Az d.ex.length cz, .slice Bz d.st.length kz] 31)))
      have HXz := Lib.hid (Has.new w7 [.int .i64 d.b, .slice Az d.ex.length cz, .slice Bz d.st.length kz] 31)
      have HB7' := Lib.hid (bt_ HB7.out (box_below w7 (.cells #[.int .i64 d.b, .slice Az d.ex.length cz, .slice Bz d.st.length kz] 31)))
      obtain ⟨da, db, dc⟩ := HXd.out.c3
      obtain ⟨za, zb, zc⟩ := HXz.out.c3
      have HC := Lib.hid (HP.out _ _ (HRD.out.keep HB7'.out))
      go_wp2_with fail
      refine HC.out.mono ?_
      rintro e w8 ⟨vl, rfl, hi, hb⟩
      clear HC
      have HRt := Lib.hid (HRt.out.keep hb)
      have HRu := Lib.hid (HRu.out.keep hb)
      have HRv := Lib.hid (HRv.out.keep hb)
      have HRx := Lib.hid (HRx.out.keep hb)
      have HRz := Lib.hid (HRz.out.keep hb)
      have HXd := Lib.hid (HXd.out.keep hb)
      have HXt := Lib.hid (HXt.out.keep hb)
      have HXu := Lib.hid (HXu.out.keep hb)
      have HXv := Lib.hid (HXv.out.keep hb)
      have HXx := Lib.hid (HXx.out.keep hb)
      have HXz := Lib.hid (HXz.out.keep hb)
      have HB8 := Lib.hid (bt_ HB7'.out hb)
      have HIl := Lib.hid hi
      obtain ⟨Al, cl, rfl⟩ := hi.slice
      clear hb hi
      obtain ⟨da, db, dc⟩ := HXd.out.c3
      obtain ⟨za, zb, zc⟩ := HXz.out.c3
      have HC := Lib.hid (HP.out _ _ HRz.out)
      go_wp2_with fail
      refine HC.out.mono ?_
      rintro e w9 ⟨vm, rfl, hi, hb⟩
      clear HC
      have HRt := Lib.hid (HRt.out.keep hb)
      have HRu := Lib.hid (HRu.out.keep hb)
      have HRv := Lib.hid (HRv.out.keep hb)
      have HRx := Lib.hid (HRx.out.keep hb)
      have HRz := Lib.hid (HRz.out.keep hb)
      have HXd := Lib.hid (HXd.out.keep hb)
      have HXt := Lib.hid (HXt.out.keep hb)
      have HXu := Lib.hid (HXu.out.keep hb)
      have HXv := Lib.hid (HXv.out.keep hb)
      have HXx := Lib.hid (HXx.out.keep hb)
      have HXz := Lib.hid (HXz.out.keep hb)
      have HIl := Lib.hid (HIl.out.keep hb)
      have HB9 := Lib.hid (bt_ HB8.out hb)
      have HIm := Lib.hid hi
      obtain ⟨Am, cm, rfl⟩ := hi.slice
      clear hb hi
      obtain ⟨da, db, dc⟩ := HXd.out.c3
      obtain ⟨za, zb, zc⟩ := HXz.out.c3
      have HRD8 := Lib.hid (HRD.out.keep HB9.out)
      have HC := Lib.hid (sameT_c _ _ d _ HRz.out HRD8.out)
      go_wp2_with fail
      refine HC.out.mono ?_
      rintro e w10 ⟨rfl, hb⟩
      clear HC
      have HRt := Lib.hid (HRt.out.keep hb)
      have HRu := Lib.hid (HRu.out.keep hb)
      have HRv := Lib.hid (HRv.out.keep hb)
      have HRx := Lib.hid (HRx.out.keep hb)
      have HRz := Lib.hid (HRz.out.keep hb)
      have HXd := Lib.hid (HXd.out.keep hb)
      have HXt := Lib.hid (HXt.out.keep hb)
      have HXu := Lib.hid (HXu.out.keep hb)
      have HXv := Lib.hid (HXv.out.keep hb)
      have HXx := Lib.hid (HXx.out.keep hb)
      have HXz := Lib.hid (HXz.out.keep hb)
      have HIl := Lib.hid (HIl.out.keep hb)
      have HIm := Lib.hid (HIm.out.keep hb)
      have HB10 := Lib.hid (bt_ HB9.out hb)
      clear hb
      have HC := Lib.hid (sameI_c _ _ (plL d) _ HIl.out HIm.out)
      go_wp2_with fail
      refine HC.out.mono ?_
      rintro e w11 ⟨rfl, hb⟩
      clear HC
      have HRt := Lib.hid (HRt.out.keep hb)
      have HRu := Lib.hid (HRu.out.keep hb)
      have HRv := Lib.hid (HRv.out.keep hb)
      have HRx := Lib.hid (HRx.out.keep hb)
      have HRz := Lib.hid (HRz.out.keep hb)
      have HXd := Lib.hid (HXd.out.keep hb)
      have HXt := Lib.hid (HXt.out.keep hb)
      have HXu := Lib.hid (HXu.out.keep hb)
      have HXv := Lib.hid (HXv.out.keep hb)
      have HXx := Lib.hid (HXx.out.keep hb)
      have HXz := Lib.hid (HXz.out.keep hb)
      have HIl := Lib.hid (HIl.out.keep hb)
      have HIm := Lib.hid (HIm.out.keep hb)
      have HB11 := Lib.hid (bt_ HB10.out hb)
      clear hb
      go_wp2_with fail
      refine (HA.out _).mono ?_
      rintro e w12 ⟨rfl, hb⟩
      have HB12 := Lib.hid (bt_ HB11.out hb)
      clear hb
      go_wp2
      go_ret
      exact ⟨rfl, HB12.out⟩
  · rw [htE] at HT1 HT2; rw [htD, htE2] at HT3
    clear htE
    rcases hrE with hrE | ⟨hrE, -, hrD, hrE2, hpE⟩
    · rw [hrE] at HR1 HR2
      clear hrE
      go_enter Try.func8, Try.ntmps8
      have HC := Lib.hid (HT1.out _ HB.out)
      go_wp2_with fail
      refine HC.out.mono ?_
      intro e w1 hp
      obtain ⟨At, ct, Bt, kt, rfl, hr, hb⟩ := dpost_open hp
      clear hp HC
      have HXd := Lib.hid (HXd.out.keep hb)
      have HB1 := Lib.hid (bt_ HB.out hb)
      have HRt := Lib.hid hr
      clear hb hr
      have HRt := Lib.hid (HRt.out.keep (box_below w1 (.cells #[.int .i64 T.b, .slice At T.ex.length ct, .slice Bt T.st.length kt] 31)))
      have HXd := Lib.hid (HXd.out.keep (box_below w1 (.cells #[.int .i64 T.b, .slice At T.ex.length ct, .slice Bt T.st.length kt] 31)))
      have HXt := Lib.hid (Has.new w1 [.int .i64 T.b, .slice At T.ex.length ct, .slice Bt T.st.length kt] 31)
      have HB1' := Lib.hid (bt_ HB1.out (box_below w1 (.cells #[.int .i64 T.b, .slice At T.ex.length ct, .slice Bt T.st.length kt] 31)))
      obtain ⟨da, db, dc⟩ := HXd.out.c3
      have HC := Lib.hid (HT2.out _ HB1'.out)
      go_wp2_with fail
      refine HC.out.mono ?_
      intro e w2 hp
      obtain ⟨Au, cu, Bu, ku, rfl, hr, hb⟩ := dpost_open hp
      clear hp HC
      have HRt := Lib.hid (HRt.out.keep hb)
      have HXd := Lib.hid (HXd.out.keep hb)
      have HXt := Lib.hid (HXt.out.keep hb)
      have HB2 := Lib.hid (bt_ HB1'.out hb)
      have HRu := Lib.hid hr
      clear hb hr
      have HRt := Lib.hid (HRt.out.keep (box_below w2 (.cells #[.int .i64 T.b, .slice Au T.ex.length cu, .slice Bu T.st.length ku] 31)))
      have HRu := Lib.hid (HRu.out.keep (box_below w2 (.cells #[.int .i64 T.b, .slice Au T.ex.length cu, .slice Bu T.st.length ku] 31)))
      have HXd := Lib.hid (HXd.out.keep (box_below w2 (.cells #[.int .i64 T.b, .slice Au T.ex.length cu, .slice Bu T.st.length ku] 31)))
      have HXt := Lib.hid (HXt.out.keep (box_below w2 (.cells #[.int .i64 T.b, .slice Au T.ex.length cu, .slice Bu T.st.length ku] 31)))
      have HXu := Lib.hid (Has.new w2 [.int .i64 T.b, .slice Au T.ex.length cu, .slice Bu T.st.length ku] 31)
      have HB2' := Lib.hid (bt_ HB2.out (box_below w2 (.cells #[.int .i64 T.b, .slice Au T.ex.length cu, .slice Bu T.st.length ku] 31)))
      obtain ⟨da, db, dc⟩ := HXd.out.c3
      have HC := Lib.hid (HR1.out _ HB2'.out)
      go_wp2_with fail
      refine HC.out.mono ?_
      intro e w3 hp
      obtain ⟨Av, cv, Bv, kv, rfl, hr, hb⟩ := dpost_open hp
      clear hp HC
      have HRt := Lib.hid (HRt.out.keep hb)
      have HRu := Lib.hid (HRu.out.keep hb)
      have HXd := Lib.hid (HXd.out.keep hb)
      have HXt := Lib.hid (HXt.out.keep hb)
      have HXu := Lib.hid (HXu.out.keep hb)
      have HB3 := Lib.hid (bt_ HB2'.out hb)
      have HRv := Lib.hid hr
      clear hb hr
      have HRt := Lib.hid (HRt.out.keep (box_below w3 (.cells #[.int .i64 R.b, .slice Av R.ex.length cv, .slice Bv R.st.length kv] 31)))
      have HRu := Lib.hid (HRu.out.keep (box_below w3 (.cells #[.int .i64 R.b, .slice Av R.ex.length cv, .slice Bv R.st.length kv] 31)))
      have HRv := Lib.hid (HRv.out.keep (box_below w3 (.cells #[.int .i64 R.b, .slice Av R.ex.length cv, .slice Bv R.st.length kv] 31)))
      have HXd := Lib.hid (HXd.out.keep (box_below w3 (.cells #[.int .i64 R.b, .slice Av R.ex.length cv, .slice Bv R.st.length kv] 31)))
      have HXt := Lib.hid (HXt.out.keep (box_below w3 (.cells #[.int .i64 R.b, .slice Av R.ex.length cv, .slice Bv R.st.length kv] 31)))
      have HXu := Lib.hid (HXu.out.keep (box_below w3 (.cells #[.int .i64 R.b, .slice Av R.ex.length cv, .slice Bv R.st.length kv] 31)))
      have HXv := Lib.hid (Has.new w3 [.int .i64 R.b, .slice Av R.ex.length cv, .slice Bv R.st.length kv] 31)
      have HB3' := Lib.hid (bt_ HB3.out (box_below w3 (.cells #[.int .i64 R.b, .slice Av R.ex.length cv, .slice Bv R.st.length kv] 31)))
      obtain ⟨da, db, dc⟩ := HXd.out.c3
      have HC := Lib.hid (HR2.out _ HB3'.out)
      go_wp2_with fail
      refine HC.out.mono ?_
      intro e w4 hp
      obtain ⟨Ax, cx, Bx, kx, rfl, hr, hb⟩ := dpost_open hp
      clear hp HC
      have HRt := Lib.hid (HRt.out.keep hb)
      have HRu := Lib.hid (HRu.out.keep hb)
      have HRv := Lib.hid (HRv.out.keep hb)
      have HXd := Lib.hid (HXd.out.keep hb)
      have HXt := Lib.hid (HXt.out.keep hb)
      have HXu := Lib.hid (HXu.out.keep hb)
      have HXv := Lib.hid (HXv.out.keep hb)
      have HB4 := Lib.hid (bt_ HB3'.out hb)
      have HRx := Lib.hid hr
      clear hb hr
      have HRt := Lib.hid (HRt.out.keep (box_below w4 (.cells #[.int .i64 R.b, .slice Ax R.ex.length cx, .slice Bx R.st.length kx] 31)))
      have HRu := Lib.hid (HRu.out.keep (box_below w4 (.cells #[.int .i64 R.b, .slice Ax R.ex.length cx, .slice Bx R.st.length kx] 31)))
      have HRv := Lib.hid (HRv.out.keep (box_below w4 (.cells #[.int .i64 R.b, .slice Ax R.ex.length cx, .slice Bx R.st.length kx] 31)))
      have HRx := Lib.hid (HRx.out.keep (box_below w4 (.cells #[.int .i64 R.b, .slice Ax R.ex.length cx, .slice Bx R.st.length kx] 31)))
      have HXd := Lib.hid (HXd.out.keep (box_below w4 (.cells #[.int .i64 R.b, .slice Ax R.ex.length cx, .slice Bx R.st.length kx] 31)))
      have HXt := Lib.hid (HXt.out.keep (box_below w4 (.cells #[.int .i64 R.b, .slice Ax R.ex.length cx, .slice Bx R.st.length kx] 31)))
      have HXu := Lib.hid (HXu.out.keep (box_below w4 (.cells #[.int .i64 R.b, .slice Ax R.ex.length cx, .slice Bx R.st.length kx] 31)))
      have HXv := Lib.hid (HXv.out.keep (box_below w4 (.cells #[.int .i64 R.b, .slice Ax R.ex.length cx, .slice Bx R.st.length kx] 31)))
      have HXx := Lib.hid (Has.new w4 [.int .i64 R.b, .slice Ax R.ex.length cx, .slice Bx R.st.length kx] 31)
      have HB4' := Lib.hid (bt_ HB4.out (box_below w4 (.cells #[.int .i64 R.b, .slice Ax R.ex.length cx, .slice Bx R.st.length kx] 31)))
      obtain ⟨da, db, dc⟩ := HXd.out.c3
      obtain ⟨ta, tb, tc⟩ := HXt.out.c3
      obtain ⟨ua, ub, uc⟩ := HXu.out.c3
      have HC := Lib.hid (sameT_c _ _ T _ HRt.out HRu.out)
      go_wp2_with fail
      refine HC.out.mono ?_
      rintro e w5 ⟨rfl, hb⟩
      clear HC
      have HRt := Lib.hid (HRt.out.keep hb)
      have HRu := Lib.hid (HRu.out.keep hb)
      have HRv := Lib.hid (HRv.out.keep hb)
      have HRx := Lib.hid (HRx.out.keep hb)
      have HXd := Lib.hid (HXd.out.keep hb)
      have HXt := Lib.hid (HXt.out.keep hb)
      have HXu := Lib.hid (HXu.out.keep hb)
      have HXv := Lib.hid (HXv.out.keep hb)
      have HXx := Lib.hid (HXx.out.keep hb)
      have HB5 := Lib.hid (bt_ HB4'.out hb)
      clear hb
      obtain ⟨da, db, dc⟩ := HXd.out.c3
      obtain ⟨va, vb, vc⟩ := HXv.out.c3
      obtain ⟨xa, xb, xc⟩ := HXx.out.c3
      have HC := Lib.hid (sameT_c _ _ R _ HRv.out HRx.out)
      go_wp2_with fail
      refine HC.out.mono ?_
      rintro e w6 ⟨rfl, hb⟩
      clear HC
      have HRt := Lib.hid (HRt.out.keep hb)
      have HRu := Lib.hid (HRu.out.keep hb)
      have HRv := Lib.hid (HRv.out.keep hb)
      have HRx := Lib.hid (HRx.out.keep hb)
      have HXd := Lib.hid (HXd.out.keep hb)
      have HXt := Lib.hid (HXt.out.keep hb)
      have HXu := Lib.hid (HXu.out.keep hb)
      have HXv := Lib.hid (HXv.out.keep hb)
      have HXx := Lib.hid (HXx.out.keep hb)
      have HB6 := Lib.hid (bt_ HB5.out hb)
      clear hb
      obtain ⟨da, db, dc⟩ := HXd.out.c3
      obtain ⟨ta, tb, tc⟩ := HXt.out.c3
      have HC := Lib.hid (HT3.out _ _ HRt.out)
      go_wp2_with fail
      refine HC.out.mono ?_
      intro e w7 hp
      obtain ⟨Ay, cy, By, ky, rfl, hr, hb⟩ := dpost_open hp
      clear hp HC
      have HRt := Lib.hid (HRt.out.keep hb)
      have HRu := Lib.hid (HRu.out.keep hb)
      have HRv := Lib.hid (HRv.out.keep hb)
      have HRx := Lib.hid (HRx.out.keep hb)
      have HXd := Lib.hid (HXd.out.keep hb)
      have HXt := Lib.hid (HXt.out.keep hb)
      have HXu := Lib.hid (HXu.out.keep hb)
      have HXv := Lib.hid (HXv.out.keep hb)
      have HXx := Lib.hid (HXx.out.keep hb)
      have HB7 := Lib.hid (bt_ HB6.out hb)
      have HRy := Lib.hid hr
      clear hb hr
      have HRt := Lib.hid (HRt.out.keep (box_below w7 (.cells #[.int .i64 d.b, .slice Ay d.ex.length cy, .slice By d.st.length ky] 31)))
      have HRu := Lib.hid (HRu.out.keep (box_below w7 (.cells #[.int .i64 d.b, .slice Ay d.ex.length cy, .slice By d.st.length ky] 31)))
      have HRv := Lib.hid (HRv.out.keep (box_below w7 (.cells #[.int .i64 d.b, .slice Ay d.ex.length cy, .slice By d.st.length ky] 31)))
      have HRx := Lib.hid (HRx.out.keep (box_below w7 (.cells #[.int .i64 d.b, .slice Ay d.ex.length cy, .slice By d.st.length ky] 31)))
      have HRy := Lib.hid (HRy.out.keep (box_below w7 (.cells #[.int .i64 d.b, .slice Ay d.ex.length cy, .slice By d.st.length ky] 31)))
      have HXd := Lib.hid (HXd.out.keep (box_below w7 (.cells #[.int .i64 d.b, .slice Ay d.ex.length cy, .slice By d.st.length ky] 31)))
      have HXt := Lib.hid (HXt.out.keep (box_below w7 (.cells #[.int .i64 d.b, .slice Ay d.ex.length cy, .slice By d.st.length ky] 31)))
      have HXu := Lib.hid (HXu.out.keep (box_below w7 (.cells #[.int .i64 d.b, .slice Ay d.ex.length cy, .slice By d.st.length ky] 31)))
      have HXv := Lib.hid (HXv.out.keep (box_below w7 (.cells #[.int .i64 d.b, .slice Ay d.ex.length cy, .slice By d.st.length ky] 31)))
      have HXx := Lib.hid (HXx.out.keep (box_below w7 (.cells #[.int .i64 d.b, .slice Ay d.ex.length cy, .slice By d.st.length ky] 31)))
      have HXy := Lib.hid (Has.new w7 [.int .i64 d.b, .slice Ay d.ex.length cy, .slice By d.st.length ky] 31)
      have HB7' := Lib.hid (bt_ HB7.out (box_below w7 (.cells #[.int .i64 d.b, .slice Ay d.ex.length cy, .slice By d.st.length ky] 31)))
      obtain ⟨da, db, dc⟩ := HXd.out.c3
      obtain ⟨ya, yb, yc⟩ := HXy.out.c3
      have HRD9 := Lib.hid (HRD.out.keep HB7'.out)
      have HC := Lib.hid (sameT_c _ _ d _ HRy.out HRD9.out)
      go_wp2_with fail
      refine HC.out.mono ?_
      rintro e w8 ⟨rfl, hb⟩
      clear HC
      have HRt := Lib.hid (HRt.out.keep hb)
      have HRu := Lib.hid (HRu.out.keep hb)
      have HRv := Lib.hid (HRv.out.keep hb)
      have HRx := Lib.hid (HRx.out.keep hb)
      have HRy := Lib.hid (HRy.out.keep hb)
      have HXd := Lib.hid (HXd.out.keep hb)
      have HXt := Lib.hid (HXt.out.keep hb)
      have HXu := Lib.hid (HXu.out.keep hb)
      have HXv := Lib.hid (HXv.out.keep hb)
      have HXx := Lib.hid (HXx.out.keep hb)
      have HXy := Lib.hid (HXy.out.keep hb)
      have HB8 := Lib.hid (bt_ HB7'.out hb)
      clear hb
      obtain ⟨da, db, dc⟩ := HXd.out.c3
      obtain ⟨va, vb, vc⟩ := HXv.out.c3
      go_wp2_with fail
      refine (HA.out _).mono ?_
      rintro e w9 ⟨rfl, hb⟩
      have HB9 := Lib.hid (bt_ HB8.out hb)
      clear hb
      go_wp2
      go_ret
      exact ⟨rfl, HB9.out⟩
    · rw [hrE] at HR1 HR2; rw [hrD, hrE2] at HR3; rw [hpE] at HP
      clear hrE
      go_enter Try.func8, Try.ntmps8
      have HC := Lib.hid (HT1.out _ HB.out)
      go_wp2_with fail
      refine HC.out.mono ?_
      intro e w1 hp
      obtain ⟨At, ct, Bt, kt, rfl, hr, hb⟩ := dpost_open hp
      clear hp HC
      have HXd := Lib.hid (HXd.out.keep hb)
      have HB1 := Lib.hid (bt_ HB.out hb)
      have HRt := Lib.hid hr
      clear hb hr
      have HRt := Lib.hid (HRt.out.keep (box_below w1 (.cells #[.int .i64 T.b, .slice At T.ex.length ct, .slice Bt T.st.length kt] 31)))
      have HXd := Lib.hid (HXd.out.keep (box_below w1 (.cells #[.int .i64 T.b, .slice At T.ex.length ct, .slice Bt T.st.length kt] 31)))
      have HXt := Lib.hid (Has.new w1 [.int .i64 T.b, .slice At T.ex.length ct, .slice Bt T.st.length kt] 31)
      have HB1' := Lib.hid (bt_ HB1.out (box_below w1 (.cells #[.int .i64 T.b, .slice At T.ex.length ct, .slice Bt T.st.length kt] 31)))
      obtain ⟨da, db, dc⟩ := HXd.out.c3
      have HC := Lib.hid (HT2.out _ HB1'.out)
      go_wp2_with fail
      refine HC.out.mono ?_
      intro e w2 hp
      obtain ⟨Au, cu, Bu, ku, rfl, hr, hb⟩ := dpost_open hp
      clear hp HC
      have HRt := Lib.hid (HRt.out.keep hb)
      have HXd := Lib.hid (HXd.out.keep hb)
      have HXt := Lib.hid (HXt.out.keep hb)
      have HB2 := Lib.hid (bt_ HB1'.out hb)
      have HRu := Lib.hid hr
      clear hb hr
      have HRt := Lib.hid (HRt.out.keep (box_below w2 (.cells #[.int .i64 T.b, .slice Au T.ex.length cu, .slice Bu T.st.length ku] 31)))
      have HRu := Lib.hid (HRu.out.keep (box_below w2 (.cells #[.int .i64 T.b, .slice Au T.ex.length cu, .slice Bu T.st.length ku] 31)))
      have HXd := Lib.hid (HXd.out.keep (box_below w2 (.cells #[.int .i64 T.b, .slice Au T.ex.length cu, .slice Bu T.st.length ku] 31)))
      have HXt := Lib.hid (HXt.out.keep (box_below w2 (.cells #[.int .i64 T.b, .slice Au T.ex.length cu, .slice Bu T.st.length ku] 31)))
      have HXu := Lib.hid (Has.new w2 [.int .i64 T.b, .slice Au T.ex.length cu, .slice Bu T.st.length ku] 31)
      have HB2' := Lib.hid (bt_ HB2.out (box_below w2 (.cells #[.int .i64 T.b, .slice Au T.ex.length cu, .slice Bu T.st.length ku] 31)))
      obtain ⟨da, db, dc⟩ := HXd.out.c3
      have HC := Lib.hid (HR1.out _ HB2'.out)
      go_wp2_with fail
      refine HC.out.mono ?_
      intro e w3 hp
      obtain ⟨Av, cv, Bv, kv, rfl, hr, hb⟩ := dpost_open hp
      clear hp HC
      have HRt := Lib.hid (HRt.out.keep hb)
      have HRu := Lib.hid (HRu.out.keep hb)
      have HXd := Lib.hid (HXd.out.keep hb)
      have HXt := Lib.hid (HXt.out.keep hb)
      have HXu := Lib.hid (HXu.out.keep hb)
      have HB3 := Lib.hid (bt_ HB2'.out hb)
      have HRv := Lib.hid hr
      clear hb hr
      have HRt := Lib.hid (HRt.out.keep (box_below w3 (.cells #[.int .i64 R.b, .slice Av R.ex.length cv, .slice Bv R.st.length kv] 31)))
      have HRu := Lib.hid (HRu.out.keep (box_below w3 (.cells #[.int .i64 R.b, .slice Av R.ex.length cv, .slice Bv R.st.length kv] 31)))
      have HRv := Lib.hid (HRv.out.keep (box_below w3 (.cells #[.int .i64 R.b, .slice Av R.ex.length cv, .slice Bv R.st.length kv] 31)))
      have HXd := Lib.hid (HXd.out.keep (box_below w3 (.cells #[.int .i64 R.b, .slice Av R.ex.length cv, .slice Bv R.st.length kv] 31)))
      have HXt := Lib.hid (HXt.out.keep (box_below w3 (.cells #[.int .i64 R.b, .slice Av R.ex.length cv, .slice Bv R.st.length kv] 31)))
      have HXu := Lib.hid (HXu.out.keep (box_below w3 (.cells #[.int .i64 R.b, .slice Av R.ex.length cv, .slice Bv R.st.length kv] 31)))
      have HXv := Lib.hid (Has.new w3 [.int .i64 R.b, .slice Av R.ex.length cv, .slice Bv R.st.length kv] 31)
      have HB3' := Lib.hid (bt_ HB3.out (box_below w3 (.cells #[.int .i64 R.b, .slice Av R.ex.length cv, .slice Bv R.st.length kv] 31)))
      obtain ⟨da, db, dc⟩ := HXd.out.c3
      have HC := Lib.hid (HR2.out _ HB3'.out)
      go_wp2_with fail
      refine HC.out.mono ?_
      intro e w4 hp
      obtain ⟨Ax, cx, Bx, kx, rfl, hr, hb⟩ := dpost_open hp
      clear hp HC
      have HRt := Lib.hid (HRt.out.keep hb)
      have HRu := Lib.hid (HRu.out.keep hb)
      have HRv := Lib.hid (HRv.out.keep hb)
      have HXd := Lib.hid (HXd.out.keep hb)
      have HXt := Lib.hid (HXt.out.keep hb)
      have HXu := Lib.hid (HXu.out.keep hb)
      have HXv := Lib.hid (HXv.out.keep hb)
      have HB4 := Lib.hid (bt_ HB3'.out hb)
      have HRx := Lib.hid hr
      clear hb hr
      have HRt := Lib.hid (HRt.out.keep (box_below w4 (.cells #[.int .i64 R.b, .slice Ax R.ex.length cx, .slice Bx R.st.length kx] 31)))
      have HRu := Lib.hid (HRu.out.keep (box_below w4 (.cells #[.int .i64 R.b, .slice Ax R.ex.length cx, .slice Bx R.st.length kx] 31)))
      have HRv := Lib.hid (HRv.out.keep (box_below w4 (.cells #[.int .i64 R.b, .slice Ax R.ex.length cx, .slice Bx R.st.length kx] 31)))
      have HRx := Lib.hid (HRx.out.keep (box_below w4 (.cells #[.int .i64 R.b, .slice Ax R.ex.length cx, .slice Bx R.st.length kx] 31)))
      have HXd := Lib.hid (HXd.out.keep (box_below w4 (.cells #[.int .i64 R.b, .slice Ax R.ex.length cx, .slice Bx R.st.length kx] 31)))
      have HXt := Lib.hid (HXt.out.keep (box_below w4 (.cells #[.int .i64 R.b, .slice Ax R.ex.length cx, .slice Bx R.st.length kx] 31)))
      have HXu := Lib.hid (HXu.out.keep (box_below w4 (.cells #[.int .i64 R.b, .slice Ax R.ex.length cx, .slice Bx R.st.length kx] 31)))
      have HXv := Lib.hid (HXv.out.keep (box_below w4 (.cells #[.int .i64 R.b, .slice Ax R.ex.length cx, .slice Bx R.st.length kx] 31)))
      have HXx := Lib.hid (Has.new w4 [.int .i64 R.b, .slice Ax R.ex.length cx, .slice Bx R.st.length kx] 31)
      have HB4' := Lib.hid (bt_ HB4.out (box_below w4 (.cells #[.int .i64 R.b, .slice Ax R.ex.length cx, .slice Bx R.st.length kx] 31)))
      obtain ⟨da, db, dc⟩ := HXd.out.c3
      obtain ⟨ta, tb, tc⟩ := HXt.out.c3
      obtain ⟨ua, ub, uc⟩ := HXu.out.c3
      have HC := Lib.hid (sameT_c _ _ T _ HRt.out HRu.out)
      go_wp2_with fail
      refine HC.out.mono ?_
      rintro e w5 ⟨rfl, hb⟩
      clear HC
      have HRt := Lib.hid (HRt.out.keep hb)
      have HRu := Lib.hid (HRu.out.keep hb)
      have HRv := Lib.hid (HRv.out.keep hb)
      have HRx := Lib.hid (HRx.out.keep hb)
      have HXd := Lib.hid (HXd.out.keep hb)
      have HXt := Lib.hid (HXt.out.keep hb)
      have HXu := Lib.hid (HXu.out.keep hb)
      have HXv := Lib.hid (HXv.out.keep hb)
      have HXx := Lib.hid (HXx.out.keep hb)
      have HB5 := Lib.hid (bt_ HB4'.out hb)
      clear hb
      obtain ⟨da, db, dc⟩ := HXd.out.c3
      obtain ⟨va, vb, vc⟩ := HXv.out.c3
      obtain ⟨xa, xb, xc⟩ := HXx.out.c3
      have HC := Lib.hid (sameT_c _ _ R _ HRv.out HRx.out)
      go_wp2_with fail
      refine HC.out.mono ?_
      rintro e w6 ⟨rfl, hb⟩
      clear HC
      have HRt := Lib.hid (HRt.out.keep hb)
      have HRu := Lib.hid (HRu.out.keep hb)
      have HRv := Lib.hid (HRv.out.keep hb)
      have HRx := Lib.hid (HRx.out.keep hb)
      have HXd := Lib.hid (HXd.out.keep hb)
      have HXt := Lib.hid (HXt.out.keep hb)
      have HXu := Lib.hid (HXu.out.keep hb)
      have HXv := Lib.hid (HXv.out.keep hb)
      have HXx := Lib.hid (HXx.out.keep hb)
      have HB6 := Lib.hid (bt_ HB5.out hb)
      clear hb
      obtain ⟨da, db, dc⟩ := HXd.out.c3
      obtain ⟨ta, tb, tc⟩ := HXt.out.c3
      have HC := Lib.hid (HT3.out _ _ HRt.out)
      go_wp2_with fail
      refine HC.out.mono ?_
      intro e w7 hp
      obtain ⟨Ay, cy, By, ky, rfl, hr, hb⟩ := dpost_open hp
      clear hp HC
      have HRt := Lib.hid (HRt.out.keep hb)
      have HRu := Lib.hid (HRu.out.keep hb)
      have HRv := Lib.hid (HRv.out.keep hb)
      have HRx := Lib.hid (HRx.out.keep hb)
      have HXd := Lib.hid (HXd.out.keep hb)
      have HXt := Lib.hid (HXt.out.keep hb)
      have HXu := Lib.hid (HXu.out.keep hb)
      have HXv := Lib.hid (HXv.out.keep hb)
      have HXx := Lib.hid (HXx.out.keep hb)
      have HB7 := Lib.hid (bt_ HB6.out hb)
      have HRy := Lib.hid hr
      clear hb hr
      have HRt := Lib.hid (HRt.out.keep (box_below w7 (.cells #[.int .i64 d.b, .slice Ay d.ex.length cy, .slice By d.st.length ky] 31)))
      have HRu := Lib.hid (HRu.out.keep (box_below w7 (.cells #[.int .i64 d.b, .slice Ay d.ex.length cy, .slice By d.st.length ky] 31)))
      have HRv := Lib.hid (HRv.out.keep (box_below w7 (.cells #[.int .i64 d.b, .slice Ay d.ex.length cy, .slice By d.st.length ky] 31)))
      have HRx := Lib.hid (HRx.out.keep (box_below w7 (.cells #[.int .i64 d.b, .slice Ay d.ex.length cy, .slice By d.st.length ky] 31)))
      have HRy := Lib.hid (HRy.out.keep (box_below w7 (.cells #[.int .i64 d.b, .slice Ay d.ex.length cy, .slice By d.st.length ky] 31)))
      have HXd := Lib.hid (HXd.out.keep (box_below w7 (.cells #[.int .i64 d.b, .slice Ay d.ex.length cy, .slice By d.st.length ky] 31)))
      have HXt := Lib.hid (HXt.out.keep (box_below w7 (.cells #[.int .i64 d.b, .slice Ay d.ex.length cy, .slice By d.st.length ky] 31)))
      have HXu := Lib.hid (HXu.out.keep (box_below w7 (.cells #[.int .i64 d.b, .slice Ay d.ex.length cy, .slice By d.st.length ky] 31)))
      have HXv := Lib.hid (HXv.out.keep (box_below w7 (.cells #[.int .i64 d.b, .slice Ay d.ex.length cy, .slice By d.st.length ky] 31)))
      have HXx := Lib.hid (HXx.out.keep (box_below w7 (.cells #[.int .i64 d.b, .slice Ay d.ex.length cy, .slice By d.st.length ky] 31)))
      have HXy := Lib.hid (Has.new w7 [.int .i64 d.b, .slice Ay d.ex.length cy, .slice By d.st.length ky] 31)
      have HB7' := Lib.hid (bt_ HB7.out (box_below w7 (.cells #[.int .i64 d.b, .slice Ay d.ex.length cy, .slice By d.st.length ky] 31)))
      obtain ⟨da, db, dc⟩ := HXd.out.c3
      obtain ⟨ya, yb, yc⟩ := HXy.out.c3
      have HRD9 := Lib.hid (HRD.out.keep HB7'.out)
      have HC := Lib.hid (sameT_c _ _ d _ HRy.out HRD9.out)
      go_wp2_with fail
      refine HC.out.mono ?_
      rintro e w8 ⟨rfl, hb⟩
      clear HC
      have HRt := Lib.hid (HRt.out.keep hb)
      have HRu := Lib.hid (HRu.out.keep hb)
      have HRv := Lib.hid (HRv.out.keep hb)
      have HRx := Lib.hid (HRx.out.keep hb)
      have HRy := Lib.hid (HRy.out.keep hb)
      have HXd := Lib.hid (HXd.out.keep hb)
      have HXt := Lib.hid (HXt.out.keep hb)
      have HXu := Lib.hid (HXu.out.keep hb)
      have HXv := Lib.hid (HXv.out.keep hb)
      have HXx := Lib.hid (HXx.out.keep hb)
      have HXy := Lib.hid (HXy.out.keep hb)
      have HB8 := Lib.hid (bt_ HB7'.out hb)
      clear hb
      obtain ⟨da, db, dc⟩ := HXd.out.c3
      obtain ⟨va, vb, vc⟩ := HXv.out.c3
      have HC := Lib.hid (HR3.out _ _ HRv.out)
      go_wp2_with fail
      refine HC.out.mono ?_
      intro e w9 hp
      obtain ⟨Az, cz, Bz, kz, rfl, hr, hb⟩ := dpost_open hp
      clear hp HC
      have HRt := Lib.hid (HRt.out.keep hb)
      have HRu := Lib.hid (HRu.out.keep hb)
      have HRv := Lib.hid (HRv.out.keep hb)
      have HRx := Lib.hid (HRx.out.keep hb)
      have HRy := Lib.hid (HRy.out.keep hb)
      have HXd := Lib.hid (HXd.out.keep hb)
      have HXt := Lib.hid (HXt.out.keep hb)
      have HXu := Lib.hid (HXu.out.keep hb)
      have HXv := Lib.hid (HXv.out.keep hb)
      have HXx := Lib.hid (HXx.out.keep hb)
      have HXy := Lib.hid (HXy.out.keep hb)
      have HB9 := Lib.hid (bt_ HB8.out hb)
      have HRz := Lib.hid hr
      clear hb hr
      have HRt := Lib.hid (HRt.out.keep (box_below w9 (.cells #[.int .i64 d.b, .slice Az d.ex.length cz, .slice Bz d.st.length kz] 31)))
      have HRu := Lib.hid (HRu.out.keep (box_below w9 (.cells #[.int .i64 d.b, .slice Az d.ex.length cz, .slice Bz d.st.length kz] 31)))
      have HRv := Lib.hid (HRv.out.keep (box_below w9 (.cells #[.int .i64 d.b, .slice Az d.ex.length cz, .slice Bz d.st.length kz] 31)))
      have HRx := Lib.hid (HRx.out.keep (box_below w9 (.cells #[.int .i64 d.b, .slice Az d.ex.length cz, .slice Bz d.st.length kz] 31)))
      have HRy := Lib.hid (HRy.out.keep (box_below w9 (.cells #[.int .i64 d.b, .slice Az d.ex.length cz, .slice Bz d.st.length kz] 31)))
      have HRz := Lib.hid (HRz.out.keep (box_below w9 (.cells #[.int .i64 d.b, .slice Az d.ex.length cz, .slice Bz d.st.length kz] 31)))
      have HXd := Lib.hid (HXd.out.keep (box_below w9 (.cells #[.int .i64 d.b, .slice Az d.ex.length cz, .slice Bz d.st.length kz] 31)))
      have HXt := Lib.hid (HXt.out.keep (box_below w9 (.cells #[.int .i64 d.b, .slice Az d.ex.length cz, .slice Bz d.st.length kz] 31)))
      have HXu := Lib.hid (HXu.out.keep (box_below w9 (.cells #[.int .i64 d.b, .slice Az d.ex.length cz, .slice Bz d.st.length kz] 31)))
      have HXv := Lib.hid (HXv.out.keep (box_below w9 (.cells #[.int .i64 d.b, .slice Az d.ex.length cz, .slice Bz d.st.length kz] 31)))
      have HXx := Lib.hid (HXx.out.keep (box_below w9 (.cells #[.int .i64 d.b, .slice Az d.ex.length cz, .slice Bz d.st.length kz] 31)))
      have HXy := Lib.hid (HXy.out.keep (box_below w9 (.cells #[.int .i64 d.b, .slice Az d.ex.length cz, .slice Bz d.st.length kz] 31)))
      have HXz := Lib.hid (Has.new w9 [.int .i64 d.b, .slice Az d.ex.length cz, .slice Bz d.st.length kz] 31)
      have HB9' := Lib.hid (bt_ HB9.out (box_below w9 (.cells #[.int .i64 d.b, .slice Az d.ex.length cz, .slice Bz d.st.length kz] 31)))
      obtain ⟨da, db, dc⟩ := HXd.out.c3
      obtain ⟨za, zb, zc⟩ := HXz.out.c3
      have HC := Lib.hid (HP.out _ _ (HRD.out.keep HB9'.out))
      go_wp2_with fail
      refine HC.out.mono ?_
      rintro e w10 ⟨vl, rfl, hi, hb⟩
      clear HC
      have HRt := Lib.hid (HRt.out.keep hb)
      have HRu := Lib.hid (HRu.out.keep hb)
      have HRv := Lib.hid (HRv.out.keep hb)
      have HRx := Lib.hid (HRx.out.keep hb)
      have HRy := Lib.hid (HRy.out.keep hb)
      have HRz := Lib.hid (HRz.out.keep hb)
      have HXd := Lib.hid (HXd.out.keep hb)
      have HXt := Lib.hid (HXt.out.keep hb)
      have HXu := Lib.hid (HXu.out.keep hb)
      have HXv := Lib.hid (HXv.out.keep hb)
      have HXx := Lib.hid (HXx.out.keep hb)
      have HXy := Lib.hid (HXy.out.keep hb)
      have HXz := Lib.hid (HXz.out.keep hb)
      have HB10 := Lib.hid (bt_ HB9'.out hb)
      have HIl := Lib.hid hi
      obtain ⟨Al, cl, rfl⟩ := hi.slice
      clear hb hi
      obtain ⟨da, db, dc⟩ := HXd.out.c3
      obtain ⟨za, zb, zc⟩ := HXz.out.c3
      have HC := Lib.hid (HP.out _ _ HRz.out)
      go_wp2_with fail
      refine HC.out.mono ?_
      rintro e w11 ⟨vm, rfl, hi, hb⟩
      clear HC
      have HRt := Lib.hid (HRt.out.keep hb)
      have HRu := Lib.hid (HRu.out.keep hb)
      have HRv := Lib.hid (HRv.out.keep hb)
      have HRx := Lib.hid (HRx.out.keep hb)
      have HRy := Lib.hid (HRy.out.keep hb)
      have HRz := Lib.hid (HRz.out.keep hb)
      have HXd := Lib.hid (HXd.out.keep hb)
      have HXt := Lib.hid (HXt.out.keep hb)
      have HXu := Lib.hid (HXu.out.keep hb)
      have HXv := Lib.hid (HXv.out.keep hb)
      have HXx := Lib.hid (HXx.out.keep hb)
      have HXy := Lib.hid (HXy.out.keep hb)
      have HXz := Lib.hid (HXz.out.keep hb)
      have HIl := Lib.hid (HIl.out.keep hb)
      have HB11 := Lib.hid (bt_ HB10.out hb)
      have HIm := Lib.hid hi
      obtain ⟨Am, cm, rfl⟩ := hi.slice
      clear hb hi
      obtain ⟨da, db, dc⟩ := HXd.out.c3
      obtain ⟨za, zb, zc⟩ := HXz.out.c3
      have HRD8 := Lib.hid (HRD.out.keep HB11.out)
      have HC := Lib.hid (sameT_c _ _ d _ HRz.out HRD8.out)
      go_wp2_with fail
      refine HC.out.mono ?_
      rintro e w12 ⟨rfl, hb⟩
      clear HC
      have HRt := Lib.hid (HRt.out.keep hb)
      have HRu := Lib.hid (HRu.out.keep hb)
      have HRv := Lib.hid (HRv.out.keep hb)
      have HRx := Lib.hid (HRx.out.keep hb)
      have HRy := Lib.hid (HRy.out.keep hb)
      have HRz := Lib.hid (HRz.out.keep hb)
      have HXd := Lib.hid (HXd.out.keep hb)
      have HXt := Lib.hid (HXt.out.keep hb)
      have HXu := Lib.hid (HXu.out.keep hb)
      have HXv := Lib.hid (HXv.out.keep hb)
      have HXx := Lib.hid (HXx.out.keep hb)
      have HXy := Lib.hid (HXy.out.keep hb)
      have HXz := Lib.hid (HXz.out.keep hb)
      have HIl := Lib.hid (HIl.out.keep hb)
      have HIm := Lib.hid (HIm.out.keep hb)
      have HB12 := Lib.hid (bt_ HB11.out hb)
      clear hb
      have HC := Lib.hid (sameI_c _ _ (plL d) _ HIl.out HIm.out)
      go_wp2_with fail
      refine HC.out.mono ?_
      rintro e w13 ⟨rfl, hb⟩
      clear HC
      have HRt := Lib.hid (HRt.out.keep hb)
      have HRu := Lib.hid (HRu.out.keep hb)
      have HRv := Lib.hid (HRv.out.keep hb)
      have HRx := Lib.hid (HRx.out.keep hb)
      have HRy := Lib.hid (HRy.out.keep hb)
      have HRz := Lib.hid (HRz.out.keep hb)
      have HXd := Lib.hid (HXd.out.keep hb)
      have HXt := Lib.hid (HXt.out.keep hb)
      have HXu := Lib.hid (HXu.out.keep hb)
      have HXv := Lib.hid (HXv.out.keep hb)
      have HXx := Lib.hid (HXx.out.keep hb)
      have HXy := Lib.hid (HXy.out.keep hb)
      have HXz := Lib.hid (HXz.out.keep hb)
      have HIl := Lib.hid (HIl.out.keep hb)
      have HIm := Lib.hid (HIm.out.keep hb)
      have HB13 := Lib.hid (bt_ HB12.out hb)
      clear hb
      go_wp2_with fail
      refine (HA.out _).mono ?_
      rintro e w14 ⟨rfl, hb⟩
      have HB14 := Lib.hid (bt_ HB13.out hb)
      clear hb
      go_wp2
      go_ret
      exact ⟨rfl, HB14.out⟩
end Go.Proofs.Ytkgdnlknnjiglaa

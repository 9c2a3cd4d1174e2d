/- The walk of the law SectionCuts. -/
import Derived.Test.YtkgdnlknnjiglaaLawA
import Derived.Test.YtkgdnlknnjiglaaSecK2
namespace Go.Proofs.Ytkgdnlknnjiglaa
open Go Go.ChangeShapes Go.WideShapes Go.ChangeAt Go.WideMaps Go.WideElems Go.RowKit Go.ChangeMaps

theorem sameU_c (v1 v2 : Value) (d : DS) (w : World) (h1 : RD w v1 d) (h2 : RD w v2 d) :
    Calls Try.prog 26 #[v1, v2] w fun e w' => e = .returned (.bool true) ∧ Below w.heap.size w w' := by
  have h0 := (same_c v1 v2 d d w h1 h2).mono fun _ _ ⟨h3, h4⟩ => (⟨h3, BD.below h4⟩ : _ ∧ _)
  rw [same_iff.2 rfl] at h0
  exact h0
/-- What a call of Cut leaves: T is the descriptor. -/
theorem dpost_openC {T : DS} {n : Int} {w w' : World} {e : Ending} (h : DPost T n w e w') : ∃ Ae ce As cs, e = .returned (.tuple #[.agg #[.int .i64 T.b, .slice Ae T.ex.length ce, .slice As T.st.length cs], .int .i64 n]) ∧ RD w' (.agg #[.int .i64 T.b, .slice Ae T.ex.length ce, .slice As T.st.length cs]) T ∧ Below w.heap.size w w' := by
  obtain ⟨v, rfl, hr, hb⟩ := h
  have hr0 := hr
  obtain ⟨ve, vs, rfl, he, hs, -⟩ := hr
  obtain ⟨Ae, ce, rfl⟩ := he.slice
  obtain ⟨As, cs, rfl⟩ := hs.slice
  exact ⟨Ae, ce, As, cs, rfl, hr0, hb⟩
set_option maxRecDepth 100000 in
set_option maxHeartbeats 8000000 in
theorem sectionCuts_walk (w : World) (v0 : Value) (d : DS) (h0 : RD w v0 d) (v1 : Value) (S : List SB) (h1 : RS w v1 S) :
    Calls Try.prog 6 #[v0, v1] w fun e w' => e = .returned (.bool true) ∧ Below w.heap.size w w' := by
  have hr := h0
  obtain ⟨ve, vt, rfl, he, ht, hfb⟩ := h0
  obtain ⟨E0, ce0, rfl⟩ := he.slice
  obtain ⟨S0, cs0, rfl⟩ := ht.slice
  have HB := Lib.hid (box_below w (.cells #[.int .i64 d.b, .slice E0 d.ex.length ce0, .slice S0 d.st.length cs0] 31))
  have HXd := Lib.hid (Has.new w [.int .i64 d.b, .slice E0 d.ex.length ce0, .slice S0 d.st.length cs0] 31)
  have HA := Lib.hid Awake_c
  obtain ⟨T, hT⟩ : ∃ T, T = cutD d S := ⟨_, rfl⟩
  obtain ⟨er, hE⟩ : ∃ x, x = cutE d S := ⟨_, rfl⟩
  have HT1 := Lib.hid (fun (wx : World) (hb : Below w.heap.size w wx) => Cut_c _ v1 d S wx (hr.keep hb) (h1.keep hb))
  have HT2 := Lib.hid (fun (wx : World) (hb : Below w.heap.size w wx) => rCut_c _ v1 d S wx (hr.keep hb) (h1.keep hb))
  rw [← hT, ← hE] at HT1 HT2
  obtain ⟨Z, cz, rfl, -⟩ := h1
  clear hr he ht hfb hT hE
  go_enter Try.func6, Try.ntmps6
  have HC := Lib.hid (HT1.out _ HB.out)
  go_wp2_with fail
  refine HC.out.mono ?_
  intro e w1 hp
  obtain ⟨At, ct, Bt, kt, rfl, hr, hb⟩ := dpost_openC hp
  clear hp HC
  have HXd := Lib.hid (HXd.out.keep hb)
  have HB1 := Lib.hid (bt_ HB.out hb)
  have HRt := Lib.hid hr
  clear hb hr
  have HRt := Lib.hid (HRt.out.keep (box_below w1 (.cells #[.int .i64 T.b, .slice At T.ex.length ct, .slice Bt T.st.length kt] 31)))
  have HXd := Lib.hid (HXd.out.keep (box_below w1 (.cells #[.int .i64 T.b, .slice At T.ex.length ct, .slice Bt T.st.length kt] 31)))
  have HXt := Lib.hid (Has.new w1 [.int .i64 T.b, .slice At T.ex.length ct, .slice Bt T.st.length kt] 31)
  have HB1' := Lib.hid (bt_ HB1.out (box_below w1 (.cells #[.int .i64 T.b, .slice At T.ex.length ct, .slice Bt T.st.length kt] 31)))
  obtain ⟨da, db, dc⟩ := HXd.out.c3
  have HC := Lib.hid (HT2.out _ HB1'.out)
  go_wp2_with fail
  refine HC.out.mono ?_
  intro e w2 hp
  obtain ⟨Au, cu, Bu, ku, rfl, hr, hb⟩ := dpost_openC hp
  clear hp HC
  have HRt := Lib.hid (HRt.out.keep hb)
  have HXd := Lib.hid (HXd.out.keep hb)
  have HXt := Lib.hid (HXt.out.keep hb)
  have HB2 := Lib.hid (bt_ HB1'.out hb)
  have HRu := Lib.hid hr
  clear hb hr
  have HRt := Lib.hid (HRt.out.keep (box_below w2 (.cells #[.int .i64 T.b, .slice Au T.ex.length cu, .slice Bu T.st.length ku] 31)))
  have HRu := Lib.hid (HRu.out.keep (box_below w2 (.cells #[.int .i64 T.b, .slice Au T.ex.length cu, .slice Bu T.st.length ku] 31)))
  have HXd := Lib.hid (HXd.out.keep (box_below w2 (.cells #[.int .i64 T.b, .slice Au T.ex.length cu, .slice Bu T.st.length ku] 31)))
  have HXt := Lib.hid (HXt.out.keep (box_below w2 (.cells #[.int .i64 T.b, .slice Au T.ex.length cu, .slice Bu T.st.length ku] 31)))
  have HXu := Lib.hid (Has.new w2 [.int .i64 T.b, .slice Au T.ex.length cu, .slice Bu T.st.length ku] 31)
  have HB2' := Lib.hid (bt_ HB2.out (box_below w2 (.cells #[.int .i64 T.b, .slice Au T.ex.length cu, .slice Bu T.st.length ku] 31)))
  obtain ⟨da, db, dc⟩ := HXd.out.c3
  obtain ⟨ta, tb, tc⟩ := HXt.out.c3
  obtain ⟨ua, ub, uc⟩ := HXu.out.c3
  have HC := Lib.hid (sameU_c _ _ T _ HRt.out HRu.out)
  go_wp2_with fail
  refine HC.out.mono ?_
  rintro e w3 ⟨rfl, hb⟩
  clear HC
  have HRt := Lib.hid (HRt.out.keep hb)
  have HRu := Lib.hid (HRu.out.keep hb)
  have HXd := Lib.hid (HXd.out.keep hb)
  have HXt := Lib.hid (HXt.out.keep hb)
  have HXu := Lib.hid (HXu.out.keep hb)
  have HB3 := Lib.hid (bt_ HB2'.out hb)
  clear hb
  go_wp2_with fail
  refine (HA.out _).mono ?_
  rintro e w4 ⟨rfl, hb⟩
  have HB4 := Lib.hid (bt_ HB3.out hb)
  clear hb
  go_wp2
  go_ret
  exact ⟨rfl, HB4.out⟩
end Go.Proofs.Ytkgdnlknnjiglaa

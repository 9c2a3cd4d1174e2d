/-
  PROVED: the law SectionCounts (how many members a triple has; one more does not fit behind the last one, nor is one missing) returns true for every triple. No condition.
-/
import Derived.Test.YtkgdnlknnjiglaaLawA
import Derived.Test.YtkgdnlknnjiglaaSecB
namespace Go.Proofs.Ytkgdnlknnjiglaa
open Go Go.ChangeShapes Go.WideShapes Go.ChangeAt Go.WideMaps Go.WideElems Go.RowKit Go.ChangeMaps

set_option maxRecDepth 100000 in
set_option maxHeartbeats 4000000 in
theorem sectionCounts_walk (lo hi st : Int) (_ : Fit lo) (_ : Fit hi) (_ : Fit st) (w : World) :
    Calls Try.prog 3 #[.agg #[.int .i64 lo, .int .i64 hi, .int .i64 st]] w fun e w' => e = .returned (.bool true) ∧ Below w.heap.size w w' := by
  have H1 := Lib.hid (Count_c lo hi st); have H2 := Lib.hid (rCount_c lo hi st)
  have HA := Lib.hid Awake_c
  by_cases h : triB lo hi st = true
  · rw [cntR_yes h] at H1 H2
    have hs := cnt_sums h
    have hb := cnt_bd h
    obtain ⟨h1, h2, h3, h4⟩ := tri_iff.1 h
    rw [near_iff] at h1 h2 h3
    have hp := @cnt_pos lo hi st
    have hq := @cnt_neg lo hi st
    generalize cnt lo hi st = c at *
    have HP := Lib.hid hp; have HQ := Lib.hid hq
    clear h hp hq
    go_enter Try.func3, Try.ntmps3
    go_wp2_with fail
    refine (H1.out _).mono ?_
    rintro e w1 ⟨rfl, hb1⟩
    have hx := (Has.new w [.int .i64 lo, .int .i64 hi, .int .i64 st] 23).keep hb1
    obtain ⟨g1, g2, g3⟩ := hx.c3
    have HB1 := Lib.hid (bt_ (box_below w _) hb1)
    have HX := Lib.hid hx
    clear hx hb1
    go_wp2_with fail
    refine (H2.out _).mono ?_
    rintro e w2 ⟨rfl, hb2⟩
    have hx := HX.out.keep hb2
    obtain ⟨g1, g2, g3⟩ := hx.c3
    have HB2 := Lib.hid (bt_ HB1.out hb2)
    clear hx hb2
    go_wp2_with fail
    go_quiet (fail)
    rcases Int.lt_or_gt_of_ne h4 with hs1 | hs1
    · obtain ⟨z1, z2⟩ := HQ.out hs1
      by_cases hc : c = 0
      · have f0 : (c == 0) = true := by simpa using hc
        clear z2 hc
        go_wp2_with fail
        refine (HA.out _).mono ?_
        rintro e w3 ⟨rfl, hb3⟩
        go_wp2
        go_ret
        exact ⟨rfl, bt_ (below_dn HB2.out _) hb3⟩
      · have f0 : (c == 0) = false := by simpa using hc
        have z3 := z2 (by omega)
        clear z2
        go_wp2_with fail
        refine (HA.out _).mono ?_
        rintro e w3 ⟨rfl, hb3⟩
        go_wp2
        go_ret
        exact ⟨rfl, bt_ (below_dn HB2.out _) hb3⟩
    · obtain ⟨z1, z2⟩ := HP.out hs1
      by_cases hc : c = 0
      · have f0 : (c == 0) = true := by simpa using hc
        clear z2 hc
        go_wp2_with fail
        refine (HA.out _).mono ?_
        rintro e w3 ⟨rfl, hb3⟩
        go_wp2
        go_ret
        exact ⟨rfl, bt_ (below_dn HB2.out _) hb3⟩
      · have f0 : (c == 0) = false := by simpa using hc
        have z3 := z2 (by omega)
        clear z2
        go_wp2_with fail
        refine (HA.out _).mono ?_
        rintro e w3 ⟨rfl, hb3⟩
        go_wp2
        go_ret
        exact ⟨rfl, bt_ (below_dn HB2.out _) hb3⟩
  · have h' : triB lo hi st = false := by simpa using h
    rw [cntR_no h'] at H1 H2
    clear h h'
    go_enter Try.func3, Try.ntmps3
    go_wp2_with fail
    refine (H1.out _).mono ?_
    rintro e w1 ⟨rfl, hb1⟩
    have hx := (Has.new w [.int .i64 lo, .int .i64 hi, .int .i64 st] 23).keep hb1
    obtain ⟨g1, g2, g3⟩ := hx.c3
    have HB1 := Lib.hid (bt_ (box_below w _) hb1)
    clear hx hb1
    go_wp2_with fail
    refine (H2.out _).mono ?_
    rintro e w2 ⟨rfl, hb2⟩
    have HB2 := Lib.hid (bt_ HB1.out hb2)
    clear hb2
    go_wp2_with fail
    refine (HA.out _).mono ?_
    rintro e w3 ⟨rfl, hb3⟩
    go_wp2
    go_ret
    exact ⟨rfl, bt_ HB2.out hb3⟩

set_option maxRecDepth 100000 in
theorem sectionCounts_lifted (os : Os) (started : os.Started) (H : Type) (enc : TypeId × Value → H) :
    ReturnsInHanded {} Try.checked os 3 .any (Rows.sectionCountsSpec.pre6 enc Try.prog Try.f3 [] false) (Rows.sectionCountsSpec.post enc Try.prog Try.f3 false true false false) := by
  refine returnsInHanded_of_change_sized (C := Try.checked) own started (by kernel_rfl) Try.func3
    (ChangeSpec.witness6 (enc := enc) (C := Try.checked) false ⟨#[], #[.agg #[.int .i64 0, .int .i64 0, .int .i64 0]], []⟩ 8 (by kernel_rfl) (by kernel_rfl) (by kernel_rfl) (by kernel_rfl)) ?_
  intro W base args ds gs before hval0 hW _ hsz0 _
  have hval : ∀ (j : Nat) t v, Try.f3.params[j]? = some t → args[j]? = some v → Value.okWide Try.prog W .any base t v := hval0
  have hsz := hsz0
  have hW' := hW
  obtain ⟨p, q, hA0, hV, rfl, hfz, hnd⟩ := hW
  have hA : DataW.TrodAll enc Try.prog W 0 (fun _ => true) true Try.f3.params.toList args.toList ds p := hA0
  rw [Try.params3] at hA hval
  obtain ⟨v0, vs0, d0, ds0, p0, q0, hargs, rfl, rfl, h0, r0⟩ := trodAll_cons hA
  obtain ⟨rfl, rfl, rfl⟩ := trodAll_nil r0
  obtain rfl : args = #[v0] := by cases args; simp_all
  obtain ⟨rfl, rfl⟩ := trodVars_none hV
  obtain ⟨b00, b01, b02, rfl, k00, k01, k02⟩ := open_triple (hval 0 23 v0 rfl rfl) h0
  clear hA0 hval0
  simp only [List.append_nil] at hW'
  have hlt : ∀ x ∈ (p0), x.block < W.heap.size := by
    intro x hx; exact hW'.lt x hx
  refine (sectionCounts_walk b00 b01 b02 k00 k01 k02 W).mono fun e W' ⟨he, hb⟩ => ?_
  subst he
  exact ⟨_, rfl, post_mem hW' (fun _ _ _ => (trodAll_cons_mk (shut_bool Try.underlying4 _) trodAll_mk0)) (fun sp hsp => (trodAll_mk1 (WideElems.Trod_stays (by kernel_rfl) (by kernel_rfl) (of_decide_eq_true (by kernel_rfl)) h0 (fun x hx => hb.same (hlt x (by simp [hx]))) (fun x hx => hsp x (by simp [hx]))))) (fun _ => rfl) hb (ok_one (by kernel_rfl) rfl (okWide_bool_mk Try.underlying4 _))⟩

theorem sectionCounts_holds : Rows.SectionCountsSaid :=
  OpenClaim.holds_of_wide 3 Try.f3 rfl rfl rfl rfl rfl rfl rfl ⟨rfl, rfl, rfl, rfl, rfl⟩ rfl rfl rfl rfl rfl (by kernel_rfl) Try.func3 (by kernel_rfl)
    (of_decide_eq_true (by kernel_rfl)) (by unfold Func.isWrapper; first | (rw [if_pos (by decide +kernel)]; kernel_rfl) | (rw [if_neg (by decide +kernel)]; exact ⟨rfl, rfl⟩))
    (fun os started H enc _ => sectionCounts_lifted os started H enc)
#print axioms sectionCounts_holds
end Go.Proofs.Ytkgdnlknnjiglaa

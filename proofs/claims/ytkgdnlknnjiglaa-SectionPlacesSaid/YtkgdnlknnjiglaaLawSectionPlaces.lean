/-
  PROVED: the law SectionPlaces (which descriptors are valid, where their elements lie, how many they are, and whether one behind the other; what the descriptor of a whole array is) returns true for every descriptor and every list of extents. No condition.
-/
import Derived.Test.YtkgdnlknnjiglaaLawA
import Derived.Test.YtkgdnlknnjiglaaSecZB
namespace Go.Proofs.Ytkgdnlknnjiglaa
open Go Go.ChangeShapes Go.WideShapes Go.ChangeAt Go.WideMaps Go.WideElems Go.RowKit Go.ChangeMaps

theorem plcW_len {d : DS} (hd : okD d) : pr d.ex = ((plcW d).length : Int) := by
  have h := gat_eq hd
  have hl : (plcW d).length = (pr d.ex).toNat := by rw [← h]; simp [gatL]
  have := (pr_small (okE_iff.1 hd.1).1 (okE_iff.1 hd.1).2.1).1
  omega
set_option maxRecDepth 100000 in
set_option maxHeartbeats 8000000 in
theorem sectionPlaces_walk (w : World) (v0 : Value) (d : DS) (h0 : RD w v0 d) (v1 : Value) (l : List Int) (h1 : RI w v1 l) :
    Calls Try.prog 4 #[v0, v1] w fun e w' => e = .returned (.bool true) ∧ Below w.heap.size w w' := by
  have hr := h0
  obtain ⟨ve, vt, rfl, he, ht, hfb⟩ := h0
  obtain ⟨o1, z1⟩ : ∃ o : Obj, o = .cells #[.int .i64 d.b, ve, vt] 31 := ⟨_, rfl⟩
  obtain ⟨W0, hW0⟩ : ∃ W0, W0 = w.alloc (.cells #[.int .i64 d.b, ve, vt] 31) := ⟨_, rfl⟩
  have HW := Lib.hid hW0
  have HB := Lib.hid (box_below w (.cells #[.int .i64 d.b, ve, vt] 31))
  have HX := Lib.hid (Has.new w [.int .i64 d.b, ve, vt] 31)
  have HRD := Lib.hid (hr.keep HB.out); have HRI := Lib.hid (h1.keep HB.out)
  have HA := Lib.hid Awake_c
  clear hr he ht hfb h1 z1 o1 hW0
  rcases hv : vldB d with _ | _
  · skip
    have HV := Lib.hid hv
    have HV1 := Lib.hid (fun (wx : World) hb => Valid_c _ d wx (HRD.out.keep hb))
    have HV2 := Lib.hid (fun (wx : World) hb => rValid_c _ d wx (HRD.out.keep hb))
    rw [hv] at HV1 HV2
    clear hv
    go_enter Try.func4, Try.ntmps4
    go_wp2_with fail
    go_region_with (first
      | (go_at_call 15; refine (HV1.out _ ?_).mono ?_; exact (Below.refl _ _).drew; rintro e wa ⟨rfl, hba⟩
         have HBa := Lib.hid (show Below (w.alloc (.cells #[.int .i64 d.b, ve, vt] 31)).heap.size (w.alloc (.cells #[.int .i64 d.b, ve, vt] 31)) wa from ((Below.refl _ _).drew).trans hba.below)
         obtain ⟨xa, xb, xc⟩ := (HX.out.keep HBa.out).c3)
      | (go_at_call 16; refine (HV2.out _ HBa.out).mono ?_; rintro e wb ⟨rfl, hbb⟩))
    all_goals
      have HB0 := Lib.hid (bt_ HBa.out hbb)
      obtain ⟨xa, xb, xc⟩ := (HX.out.keep HB0.out).c3
      clear hba hbb
      have HC1 := Lib.hid (Places_c _ d _ (HRD.out.keep HB0.out))
      rw [show plL d = [] by unfold plL; rw [HV.out]; rfl, show plE d = 2 by unfold plE; rw [HV.out]; rfl] at HC1
      go_wp2_with fail
      refine HC1.out.mono ?_
      rintro e w1 ⟨v1, rfl, hri, hb⟩
      have HB1 := Lib.hid (bt_ HB0.out hb)
      obtain ⟨xa, xb, xc⟩ := (HX.out.keep HB1.out).c3
      have HL1 := Lib.hid hri
      obtain ⟨A1, c1, rfl⟩ : ∃ A c, v1 = .slice A 0 c := by
        obtain ⟨A, c, e⟩ := hri.slice
        exact ⟨A, c, e⟩
      clear hri
      clear hb
      have HC2 := Lib.hid (rPlaces_c _ d _ (HRD.out.keep HB1.out))
      rw [show plL d = [] by unfold plL; rw [HV.out]; rfl, show plE d = 2 by unfold plE; rw [HV.out]; rfl] at HC2
      go_wp2_with fail
      refine HC2.out.mono ?_
      rintro e w2 ⟨v2, rfl, hri, hb⟩
      have HB2 := Lib.hid (bt_ HB1.out hb)
      obtain ⟨xa, xb, xc⟩ := (HX.out.keep HB2.out).c3
      have HL2 := Lib.hid hri
      obtain ⟨A2, c2, rfl⟩ : ∃ A c, v2 = .slice A 0 c := by
        obtain ⟨A, c, e⟩ := hri.slice
        exact ⟨A, c, e⟩
      clear hri
      have HL1 := Lib.hid (HL1.out.keep hb)
      clear hb
      have HC3 := Lib.hid (Size_c _ d _ (HRD.out.keep HB2.out))
      rw [szR_no HV.out] at HC3
      go_wp2_with fail
      refine HC3.out.mono ?_
      rintro e w3 ⟨rfl, hb⟩
      have HB3 := Lib.hid (bt_ HB2.out hb)
      obtain ⟨xa, xb, xc⟩ := (HX.out.keep HB3.out).c3
      have HL1 := Lib.hid (HL1.out.keep hb)
      have HL2 := Lib.hid (HL2.out.keep hb)
      clear hb
      have HC4 := Lib.hid (rSize_c _ d _ (HRD.out.keep HB3.out))
      rw [szR_no HV.out] at HC4
      go_wp2_with fail
      refine HC4.out.mono ?_
      rintro e w4 ⟨rfl, hb⟩
      have HB4 := Lib.hid (bt_ HB3.out hb)
      obtain ⟨xa, xb, xc⟩ := (HX.out.keep HB4.out).c3
      have HL1 := Lib.hid (HL1.out.keep hb)
      have HL2 := Lib.hid (HL2.out.keep hb)
      clear hb
      have HC5 := Lib.hid (Contiguous_c _ d _ (HRD.out.keep HB4.out))
      rw [show cgR d = .tuple #[.bool false, .int .i64 2] by unfold cgR cgV plE; rw [HV.out]; rfl] at HC5
      go_wp2_with fail
      refine HC5.out.mono ?_
      rintro e w5 ⟨rfl, hb⟩
      have HB5 := Lib.hid (bt_ HB4.out hb)
      obtain ⟨xa, xb, xc⟩ := (HX.out.keep HB5.out).c3
      have HL1 := Lib.hid (HL1.out.keep hb)
      have HL2 := Lib.hid (HL2.out.keep hb)
      clear hb
      have HC6 := Lib.hid (rContiguous_c _ d _ (HRD.out.keep HB5.out))
      rw [show cgR d = .tuple #[.bool false, .int .i64 2] by unfold cgR cgV plE; rw [HV.out]; rfl] at HC6
      go_wp2_with fail
      refine HC6.out.mono ?_
      rintro e w6 ⟨rfl, hb⟩
      have HB6 := Lib.hid (bt_ HB5.out hb)
      obtain ⟨xa, xb, xc⟩ := (HX.out.keep HB6.out).c3
      have HL1 := Lib.hid (HL1.out.keep hb)
      have HL2 := Lib.hid (HL2.out.keep hb)
      clear hb
      have HS := Lib.hid (sameInts_c _ _ [] [] _ HL1.out HL2.out)
      rw [decide_eq_true rfl] at HS
      have HWH := Lib.hid (fun (wx : World) hb => Whole_c v1 l wx (HRI.out.keep hb))
      have HWR := Lib.hid (fun (wx : World) hb => rWhole_c v1 l wx (HRI.out.keep hb))
      have htt : True := trivial
      all_goals
        go_wp2_with fail
        refine HS.out.mono ?_
        rintro e w7 ⟨rfl, nn, rfl⟩
        go_wp2_with fail
        refine (HWH.out _ (below_dn HB6.out _)).mono ?_
        rintro e w8 ⟨u1, rfl, ⟨ue, us, rfl, hue, hus, -⟩, hb⟩
        have HB8 := Lib.hid (bt_ (below_dn HB6.out nn) hb)
        have HUE := Lib.hid hue; have HUS := Lib.hid hus
        obtain ⟨Ae, ce, rfl⟩ := hue.slice
        obtain ⟨As, cs, rfl⟩ := hus.slice
        clear hue hus hb
        obtain ⟨b0, hb0⟩ : ∃ b, b = (whl l).b := ⟨_, rfl⟩
        obtain ⟨e0, he0⟩ : ∃ e, e = whE l := ⟨_, rfl⟩
        have HB0' := Lib.hid hb0; have HE0' := Lib.hid he0
        rw [← hb0, ← he0]
        clear hb0 he0
        go_wp2_with fail
        refine (HWR.out _ (HB8.out.alloc HB8.out.size _)).mono ?_
        rintro e w9 ⟨u2, rfl, hru, hb⟩
        have hxx := (Has.new w8 [.int .i64 b0, .slice Ae (whl l).ex.length ce, .slice As (whl l).st.length cs] 31).keep hb
        obtain ⟨q1, q2, q3⟩ := hxx.c3
        have HB9 := Lib.hid (bt_ (HB8.out.alloc HB8.out.size _) hb)
        have HR1 := Lib.hid (show RD w9 (.agg #[.int .i64 b0, .slice Ae (whl l).ex.length ce, .slice As (whl l).st.length cs]) (whl l) from ⟨_, _, by rw [HB0'.out], HUE.out.keep (bt_ (box_below w8 _) hb), HUS.out.keep (bt_ (box_below w8 _) hb), by unfold whl; split <;> exact fit0⟩)
        have HR2 := Lib.hid hru
        obtain ⟨ue2, us2, rfl, hue, hus, -⟩ := hru
        obtain ⟨Ae2, ce2, rfl⟩ := hue.slice
        obtain ⟨As2, cs2, rfl⟩ := hus.slice
        rw [← HB0'.out] at HR2
        rw [← HB0'.out, ← HE0'.out]
        have hw8 : w8.heap.size < w9.heap.size := hxx.lt
        clear hb hxx hue hus
        go_wp2_with fail
        refine (same_c _ _ (whl l) (whl l) _ (HR1.out.keep (box_below _ _)) (HR2.out.keep (box_below _ _))).mono ?_
        rw [same_iff.2 rfl]
        rintro e w10 ⟨rfl, uu, hb10, n10, rfl⟩
        have HB10 := Lib.hid (below_dn (bt_ (HB9.out.alloc HB9.out.size (.cells #[.int .i64 b0, .slice Ae2 (whl l).ex.length ce2, .slice As2 (whl l).st.length cs2] 31)) hb10) n10)
        clear hb10
        go_wp2_with fail
        refine (HA.out _).mono ?_
        rintro e w11 ⟨rfl, hb11⟩
        go_wp2
        go_ret
        exact ⟨rfl, bt_ HB.out (bt_ HB10.out hb11)⟩
  · skip
    have HV := Lib.hid hv
    have HV1 := Lib.hid (fun (wx : World) hb => Valid_c _ d wx (HRD.out.keep hb))
    have HV2 := Lib.hid (fun (wx : World) hb => rValid_c _ d wx (HRD.out.keep hb))
    rw [hv] at HV1 HV2
    clear hv
    go_enter Try.func4, Try.ntmps4
    go_wp2_with fail
    go_region_with (first
      | (go_at_call 15; refine (HV1.out _ ?_).mono ?_; exact (Below.refl _ _).drew; rintro e wa ⟨rfl, hba⟩
         have HBa := Lib.hid (show Below (w.alloc (.cells #[.int .i64 d.b, ve, vt] 31)).heap.size (w.alloc (.cells #[.int .i64 d.b, ve, vt] 31)) wa from ((Below.refl _ _).drew).trans hba.below)
         obtain ⟨xa, xb, xc⟩ := (HX.out.keep HBa.out).c3)
      | (go_at_call 16; refine (HV2.out _ HBa.out).mono ?_; rintro e wb ⟨rfl, hbb⟩))
    all_goals
      have HB0 := Lib.hid (bt_ HBa.out hbb)
      obtain ⟨xa, xb, xc⟩ := (HX.out.keep HB0.out).c3
      clear hba hbb
      have HOK := Lib.hid (vld_ok HV.out)
      obtain ⟨L, hL⟩ : ∃ L, L = (plcW d).length := ⟨_, rfl⟩
      have HL := Lib.hid hL
      obtain ⟨cg, hcg⟩ : ∃ cg, cg = cgB (plcW d) := ⟨_, rfl⟩
      have HCG := Lib.hid hcg
      have hml : L ≤ 4000 := by rw [hL]; exact plcW_le HOK.out
      clear hL hcg
      have HC1 := Lib.hid (Places_c _ d _ (HRD.out.keep HB0.out))
      rw [show plL d = plcW d by unfold plL; rw [if_pos HV.out], show plE d = 0 by unfold plE; rw [if_pos HV.out]] at HC1
      go_wp2_with fail
      refine HC1.out.mono ?_
      rintro e w1 ⟨v1, rfl, hri, hb⟩
      have HB1 := Lib.hid (bt_ HB0.out hb)
      obtain ⟨xa, xb, xc⟩ := (HX.out.keep HB1.out).c3
      have HL1 := Lib.hid hri
      obtain ⟨A1, c1, rfl⟩ : ∃ A c, v1 = .slice A L c := by
        obtain ⟨A, c, e⟩ := hri.slice
        rw [← HL.out] at e
        exact ⟨A, c, e⟩
      clear hri
      clear hb
      have HC2 := Lib.hid (rPlaces_c _ d _ (HRD.out.keep HB1.out))
      rw [show plL d = plcW d by unfold plL; rw [if_pos HV.out], show plE d = 0 by unfold plE; rw [if_pos HV.out]] at HC2
      go_wp2_with fail
      refine HC2.out.mono ?_
      rintro e w2 ⟨v2, rfl, hri, hb⟩
      have HB2 := Lib.hid (bt_ HB1.out hb)
      obtain ⟨xa, xb, xc⟩ := (HX.out.keep HB2.out).c3
      have HL2 := Lib.hid hri
      obtain ⟨A2, c2, rfl⟩ : ∃ A c, v2 = .slice A L c := by
        obtain ⟨A, c, e⟩ := hri.slice
        rw [← HL.out] at e
        exact ⟨A, c, e⟩
      clear hri
      have HL1 := Lib.hid (HL1.out.keep hb)
      clear hb
      have HC3 := Lib.hid (Size_c _ d _ (HRD.out.keep HB2.out))
      rw [szR_yes HV.out, plcW_len HOK.out, ← HL.out] at HC3
      go_wp2_with fail
      refine HC3.out.mono ?_
      rintro e w3 ⟨rfl, hb⟩
      have HB3 := Lib.hid (bt_ HB2.out hb)
      obtain ⟨xa, xb, xc⟩ := (HX.out.keep HB3.out).c3
      have HL1 := Lib.hid (HL1.out.keep hb)
      have HL2 := Lib.hid (HL2.out.keep hb)
      clear hb
      have HC4 := Lib.hid (rSize_c _ d _ (HRD.out.keep HB3.out))
      rw [szR_yes HV.out, plcW_len HOK.out, ← HL.out] at HC4
      go_wp2_with fail
      refine HC4.out.mono ?_
      rintro e w4 ⟨rfl, hb⟩
      have HB4 := Lib.hid (bt_ HB3.out hb)
      obtain ⟨xa, xb, xc⟩ := (HX.out.keep HB4.out).c3
      have HL1 := Lib.hid (HL1.out.keep hb)
      have HL2 := Lib.hid (HL2.out.keep hb)
      clear hb
      have HC5 := Lib.hid (Contiguous_c _ d _ (HRD.out.keep HB4.out))
      rw [show cgR d = .tuple #[.bool cg, .int .i64 0] by unfold cgR cgV plE; rw [HV.out, if_pos rfl, HCG.out]; rfl] at HC5
      go_wp2_with fail
      refine HC5.out.mono ?_
      rintro e w5 ⟨rfl, hb⟩
      have HB5 := Lib.hid (bt_ HB4.out hb)
      obtain ⟨xa, xb, xc⟩ := (HX.out.keep HB5.out).c3
      have HL1 := Lib.hid (HL1.out.keep hb)
      have HL2 := Lib.hid (HL2.out.keep hb)
      clear hb
      have HC6 := Lib.hid (rContiguous_c _ d _ (HRD.out.keep HB5.out))
      rw [show cgR d = .tuple #[.bool cg, .int .i64 0] by unfold cgR cgV plE; rw [HV.out, if_pos rfl, HCG.out]; rfl] at HC6
      go_wp2_with fail
      refine HC6.out.mono ?_
      rintro e w6 ⟨rfl, hb⟩
      have HB6 := Lib.hid (bt_ HB5.out hb)
      obtain ⟨xa, xb, xc⟩ := (HX.out.keep HB6.out).c3
      have HL1 := Lib.hid (HL1.out.keep hb)
      have HL2 := Lib.hid (HL2.out.keep hb)
      clear hb
      have HS := Lib.hid (sameInts_c _ _ (plcW d) (plcW d) _ HL1.out HL2.out)
      rw [decide_eq_true rfl] at HS
      have HWH := Lib.hid (fun (wx : World) hb => Whole_c v1 l wx (HRI.out.keep hb))
      have HWR := Lib.hid (fun (wx : World) hb => rWhole_c v1 l wx (HRI.out.keep hb))
      cases cg
      all_goals
        go_wp2_with fail
        refine HS.out.mono ?_
        rintro e w7 ⟨rfl, nn, rfl⟩
        go_wp2_with fail
        refine (HWH.out _ (below_dn HB6.out _)).mono ?_
        rintro e w8 ⟨u1, rfl, ⟨ue, us, rfl, hue, hus, -⟩, hb⟩
        have HB8 := Lib.hid (bt_ (below_dn HB6.out nn) hb)
        have HUE := Lib.hid hue; have HUS := Lib.hid hus
        obtain ⟨Ae, ce, rfl⟩ := hue.slice
        obtain ⟨As, cs, rfl⟩ := hus.slice
        clear hue hus hb
        obtain ⟨b0, hb0⟩ : ∃ b, b = (whl l).b := ⟨_, rfl⟩
        obtain ⟨e0, he0⟩ : ∃ e, e = whE l := ⟨_, rfl⟩
        have HB0' := Lib.hid hb0; have HE0' := Lib.hid he0
        rw [← hb0, ← he0]
        clear hb0 he0
        go_wp2_with fail
        refine (HWR.out _ (HB8.out.alloc HB8.out.size _)).mono ?_
        rintro e w9 ⟨u2, rfl, hru, hb⟩
        have hxx := (Has.new w8 [.int .i64 b0, .slice Ae (whl l).ex.length ce, .slice As (whl l).st.length cs] 31).keep hb
        obtain ⟨q1, q2, q3⟩ := hxx.c3
        have HB9 := Lib.hid (bt_ (HB8.out.alloc HB8.out.size _) hb)
        have HR1 := Lib.hid (show RD w9 (.agg #[.int .i64 b0, .slice Ae (whl l).ex.length ce, .slice As (whl l).st.length cs]) (whl l) from ⟨_, _, by rw [HB0'.out], HUE.out.keep (bt_ (box_below w8 _) hb), HUS.out.keep (bt_ (box_below w8 _) hb), by unfold whl; split <;> exact fit0⟩)
        have HR2 := Lib.hid hru
        obtain ⟨ue2, us2, rfl, hue, hus, -⟩ := hru
        obtain ⟨Ae2, ce2, rfl⟩ := hue.slice
        obtain ⟨As2, cs2, rfl⟩ := hus.slice
        rw [← HB0'.out] at HR2
        rw [← HB0'.out, ← HE0'.out]
        have hw8 : w8.heap.size < w9.heap.size := hxx.lt
        clear hb hxx hue hus
        go_wp2_with fail
        refine (same_c _ _ (whl l) (whl l) _ (HR1.out.keep (box_below _ _)) (HR2.out.keep (box_below _ _))).mono ?_
        rw [same_iff.2 rfl]
        rintro e w10 ⟨rfl, uu, hb10, n10, rfl⟩
        have HB10 := Lib.hid (below_dn (bt_ (HB9.out.alloc HB9.out.size (.cells #[.int .i64 b0, .slice Ae2 (whl l).ex.length ce2, .slice As2 (whl l).st.length cs2] 31)) hb10) n10)
        clear hb10
        go_wp2_with fail
        refine (HA.out _).mono ?_
        rintro e w11 ⟨rfl, hb11⟩
        go_wp2
        go_ret
        exact ⟨rfl, bt_ HB.out (bt_ HB10.out hb11)⟩

set_option maxRecDepth 100000 in
theorem sectionPlaces_lifted (os : Os) (started : os.Started) (H : Type) (enc : TypeId × Value → H) :
    ReturnsInHanded {} Try.checked os 4 .any (Rows.sectionPlacesSpec.pre6 enc Try.prog Try.f4 [] false) (Rows.sectionPlacesSpec.post enc Try.prog Try.f4 false true false false) := by
  refine returnsInHanded_of_change_sized (C := Try.checked) own started (by kernel_rfl) Try.func4
    (ChangeSpec.witness6 (enc := enc) (C := Try.checked) false ⟨#[], #[.agg #[.int .i64 0, .slice none 0 0, .slice none 0 0], .slice none 0 0], []⟩ 8 (by kernel_rfl) (by kernel_rfl) (by kernel_rfl) (by kernel_rfl)) ?_
  intro W base args ds gs before hval0 hW _ hsz0 _
  have hval : ∀ (j : Nat) t v, Try.f4.params[j]? = some t → args[j]? = some v → Value.okWide Try.prog W .any base t v := hval0
  have hsz := hsz0
  have hW' := hW
  obtain ⟨p, q, hA0, hV, rfl, hfz, hnd⟩ := hW
  have hA : DataW.TrodAll enc Try.prog W 0 (fun _ => true) true Try.f4.params.toList args.toList ds p := hA0
  rw [Try.params4] at hA hval
  obtain ⟨v0, vs0, d0, ds0, p0, q0, hargs, rfl, rfl, h0, r0⟩ := trodAll_cons hA
  obtain ⟨v1, vs1, d1, ds1, p1, q1, rfl, rfl, rfl, h1, r1⟩ := trodAll_cons r0
  obtain ⟨rfl, rfl, rfl⟩ := trodAll_nil r1
  obtain rfl : args = #[v0, v1] := by cases args; simp_all
  obtain ⟨rfl, rfl⟩ := trodVars_none hV
  obtain ⟨s0, k0⟩ := open_desc (hval 0 31 v0 rfl rfl) h0
  obtain ⟨l1, k1⟩ := open_list (hval 1 29 v1 rfl rfl) h1
  clear hA0 hval0
  simp only [List.append_nil] at hW'
  have hlt : ∀ x ∈ (p0 ++ p1), x.block < W.heap.size := by
    intro x hx; exact hW'.lt x hx
  refine (sectionPlaces_walk W _ s0 k0 _ l1 k1 ).mono fun e W' ⟨he, hb⟩ => ?_
  subst he
  exact ⟨_, rfl, post_mem hW' (fun _ _ _ => (trodAll_cons_mk (shut_bool Try.underlying4 _) trodAll_mk0)) (fun sp hsp => (trodAll_cons_mk (WideElems.Trod_stays (by kernel_rfl) (by kernel_rfl) (of_decide_eq_true (by kernel_rfl)) h0 (fun x hx => hb.same (hlt x (by simp [hx]))) (fun x hx => hsp x (by simp [hx]))) (trodAll_mk1 (WideElems.Trod_stays (by kernel_rfl) (by kernel_rfl) (of_decide_eq_true (by kernel_rfl)) h1 (fun x hx => hb.same (hlt x (by simp [hx]))) (fun x hx => hsp x (by simp [hx])))))) (fun _ => rfl) hb (ok_one (by kernel_rfl) rfl (okWide_bool_mk Try.underlying4 _))⟩

theorem sectionPlaces_holds : Rows.SectionPlacesSaid :=
  OpenClaim.holds_of_wide 4 Try.f4 rfl rfl rfl rfl rfl rfl rfl ⟨rfl, rfl, rfl, rfl, rfl⟩ rfl rfl rfl rfl rfl (by kernel_rfl) Try.func4 (by kernel_rfl)
    (of_decide_eq_true (by kernel_rfl)) (by unfold Func.isWrapper; first | (rw [if_pos (by decide +kernel)]; kernel_rfl) | (rw [if_neg (by decide +kernel)]; exact ⟨rfl, rfl⟩))
    (fun os started H enc _ => sectionPlaces_lifted os started H enc)
#print axioms sectionPlaces_holds
end Go.Proofs.Ytkgdnlknnjiglaa

/-
  PROVED: the law SectionAts (where an element lies) returns true for every descriptor and every list of subscripts. No condition.
-/
import Derived.Test.YtkgdnlknnjiglaaLawA
import Derived.Test.YtkgdnlknnjiglaaSecR
namespace Go.Proofs.Ytkgdnlknnjiglaa
open Go Go.ChangeShapes Go.WideShapes Go.ChangeAt Go.WideMaps Go.WideElems Go.RowKit Go.ChangeMaps

set_option maxRecDepth 100000 in
set_option maxHeartbeats 4000000 in
theorem sectionAts_walk (w : World) (v0 : Value) (d : DS) (h0 : RD w v0 d) (v1 : Value) (l : List Int) (h1 : RI w v1 l) :
    Calls Try.prog 5 #[v0, v1] w fun e w' => e = .returned (.bool true) ∧ Below w.heap.size w w' := by
  have hr := h0
  obtain ⟨ve, vt, rfl, he, ht, hfb⟩ := h0
  obtain ⟨o1, z1⟩ : ∃ o : Obj, o = .cells #[.int .i64 d.b, ve, vt] 31 := ⟨_, rfl⟩
  have HB := Lib.hid (box_below w o1)
  have HX := Lib.hid (Has.new w [.int .i64 d.b, ve, vt] 31)
  have HD := Lib.hid (hr.keep HB.out); have HL := Lib.hid (h1.keep HB.out)
  have H1 := Lib.hid (At_c _ _ d l _ HD.out HL.out)
  have HA := Lib.hid Awake_c
  unfold atR at H1
  obtain ⟨a, ha⟩ : ∃ a, a = atV d l := ⟨_, rfl⟩
  obtain ⟨b, hb⟩ : ∃ b, b = atE d l := ⟨_, rfl⟩
  rw [← ha, ← hb] at H1
  have HV := Lib.hid ha; have HE := Lib.hid hb
  rw [z1] at HB HD HL H1
  clear hr he ht hfb h1 z1 o1 ha hb
  go_enter Try.func5, Try.ntmps5
  go_wp2_with fail
  refine H1.out.mono ?_
  rintro e w1 ⟨rfl, hb1⟩
  obtain ⟨g1, g2, g3⟩ := (HX.out.keep hb1).c3
  have HB1 := Lib.hid (bt_ HB.out hb1)
  have H2 := Lib.hid (rAt_c _ _ d l _ (HD.out.keep hb1) (HL.out.keep hb1))
  unfold atR at H2
  rw [← HV.out, ← HE.out] at H2
  clear hb1
  go_wp2_with fail
  refine H2.out.mono ?_
  rintro e w2 ⟨rfl, hb2⟩
  have HB2 := Lib.hid (bt_ HB1.out hb2)
  clear hb2 g1 g2 g3
  go_wp2_with fail
  refine (HA.out _).mono ?_
  rintro e w3 ⟨rfl, hb3⟩
  go_wp2
  go_ret
  exact ⟨rfl, bt_ HB2.out hb3⟩

set_option maxRecDepth 100000 in
theorem sectionAts_lifted (os : Os) (started : os.Started) (H : Type) (enc : TypeId × Value → H) :
    ReturnsInHanded {} Try.checked os 5 .any (Rows.sectionAtsSpec.pre6 enc Try.prog Try.f5 [] false) (Rows.sectionAtsSpec.post enc Try.prog Try.f5 false true false false) := by
  refine returnsInHanded_of_change_sized (C := Try.checked) own started (by kernel_rfl) Try.func5
    (ChangeSpec.witness6 (enc := enc) (C := Try.checked) false ⟨#[], #[.agg #[.int .i64 0, .slice none 0 0, .slice none 0 0], .slice none 0 0], []⟩ 8 (by kernel_rfl) (by kernel_rfl) (by kernel_rfl) (by kernel_rfl)) ?_
  intro W base args ds gs before hval0 hW _ hsz0 _
  have hval : ∀ (j : Nat) t v, Try.f5.params[j]? = some t → args[j]? = some v → Value.okWide Try.prog W .any base t v := hval0
  have hsz := hsz0
  have hW' := hW
  obtain ⟨p, q, hA0, hV, rfl, hfz, hnd⟩ := hW
  have hA : DataW.TrodAll enc Try.prog W 0 (fun _ => true) true Try.f5.params.toList args.toList ds p := hA0
  rw [Try.params5] at hA hval
  obtain ⟨v0, vs0, d0, ds0, p0, q0, hargs, rfl, rfl, h0, r0⟩ := trodAll_cons hA
  obtain ⟨v1, vs1, d1, ds1, p1, q1, rfl, rfl, rfl, h1, r1⟩ := trodAll_cons r0
  obtain ⟨rfl, rfl, rfl⟩ := trodAll_nil r1
  obtain rfl : args = #[v0, v1] := by cases args; simp_all
  obtain ⟨rfl, rfl⟩ := trodVars_none hV
  obtain ⟨s0, k0⟩ := open_desc (hval 0 31 v0 rfl rfl) h0
  obtain ⟨l1, k1⟩ := open_list (hval 1 29 v1 rfl rfl) h1
  clear hA0 hval0
  simp only [List.append_nil] at hW'
  have hlt : ∀ x ∈ (p0 ++ p1), x.block < W.heap.size := by
    intro x hx; exact hW'.lt x hx
  refine (sectionAts_walk W _ s0 k0 _ l1 k1 ).mono fun e W' ⟨he, hb⟩ => ?_
  subst he
  exact ⟨_, rfl, post_mem hW' (fun _ _ _ => (trodAll_cons_mk (shut_bool Try.underlying4 _) trodAll_mk0)) (fun sp hsp => (trodAll_cons_mk (WideElems.Trod_stays (by kernel_rfl) (by kernel_rfl) (of_decide_eq_true (by kernel_rfl)) h0 (fun x hx => hb.same (hlt x (by simp [hx]))) (fun x hx => hsp x (by simp [hx]))) (trodAll_mk1 (WideElems.Trod_stays (by kernel_rfl) (by kernel_rfl) (of_decide_eq_true (by kernel_rfl)) h1 (fun x hx => hb.same (hlt x (by simp [hx]))) (fun x hx => hsp x (by simp [hx])))))) (fun _ => rfl) hb (ok_one (by kernel_rfl) rfl (okWide_bool_mk Try.underlying4 _))⟩

theorem sectionAts_holds : Rows.SectionAtsSaid :=
  OpenClaim.holds_of_wide 5 Try.f5 rfl rfl rfl rfl rfl rfl rfl ⟨rfl, rfl, rfl, rfl, rfl⟩ rfl rfl rfl rfl rfl (by kernel_rfl) Try.func5 (by kernel_rfl)
    (of_decide_eq_true (by kernel_rfl)) (by unfold Func.isWrapper; first | (rw [if_pos (by decide +kernel)]; kernel_rfl) | (rw [if_neg (by decide +kernel)]; exact ⟨rfl, rfl⟩))
    (fun os started H enc _ => sectionAts_lifted os started H enc)
#print axioms sectionAts_holds
end Go.Proofs.Ytkgdnlknnjiglaa

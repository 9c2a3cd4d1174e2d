/-
  PROVED: the law FloatCompares (the comparison of two floats, and whether bits are a float, are the document's answer) returns true for every three ints and leaves them as they were. Conditions: the table of class names holds what the program's text lays (tied by the card).
-/
import Derived.Test.YtfdenbgmogojeaaDoorLawB
import Derived.Test.YtfdenbgmogojeaaDoorRefE
import Derived.Test.YtfdenbgmogojeaaDoorCards
import Derived.Test.YtfdenbgmogojeaaDoorTie
import Derived.SevenTiedAt
namespace Go.Proofs.YtfdenbgmogojeaaDoor
open Go Go.ChangeShapes Go.WideShapes Go.ChangeAt Go.WideMaps Go.WideElems Go.RowKit

theorem kk_or2 (k : Int) : (∃ W D E, KK k W D E) ∨ ((k == 2) = false ∧ (k == 4) = false ∧ (k == 8) = false) := by
  by_cases c2 : k = 2
  · exact .inl ⟨16, 11, 5, .inl ⟨c2, rfl, rfl, rfl⟩⟩
  by_cases c4 : k = 4
  · exact .inl ⟨32, 24, 8, .inr (.inl ⟨c4, rfl, rfl, rfl⟩)⟩
  by_cases c8 : k = 8
  · exact .inl ⟨64, 53, 11, .inr (.inr ⟨c8, rfl, rfl, rfl⟩)⟩
  · exact .inr ⟨by simp [c2], by simp [c4], by simp [c8]⟩

set_option maxHeartbeats 1000000 in
theorem Compare_no (k a b : Int) (h2 : (k == 2) = false) (h4 : (k == 4) = false) (h8 : (k == 8) = false) (w : World) :
    Calls Tryd.prog 26 #[.int .i64 k, .int .i64 a, .int .i64 b] w fun e w' => e = .returned (.tuple #[.int .i64 0, .int .i64 2]) ∧ Below w.heap.size w w' := by
  go_enter Tryd.func26, Tryd.ntmps26
  go_wp2_with fail
  refine (layoutOf_no k h2 h4 h8 _).mono ?_
  rintro e w1 ⟨rfl, hb⟩
  have hB := hb.alloc hb.size (.cells #[.int .i64 0, .int .i64 0, .int .i64 0] 48)
  go_wp2
  go_ret2
  exact ⟨rfl, hB⟩

set_option maxHeartbeats 1000000 in
theorem Compare_out (k W D E a b : Int) (hk : KK k W D E) (hv : (okB W a && okB W b) = false) (w : World) :
    Calls Tryd.prog 26 #[.int .i64 k, .int .i64 a, .int .i64 b] w fun e w' => e = .returned (.tuple #[.int .i64 0, .int .i64 2]) ∧ Below w.heap.size w w' := by
  have h := hk.kl
  have Hk := Lib.hid hk; clear hk
  cases ha : okB W a
  · clear hv
    go_enter Tryd.func26, Tryd.ntmps26
    go_wp2_with fail
    refine (layoutOf_c k W D E Hk.out _).mono ?_
    rintro e wa ⟨rfl, hb⟩
    have hB := hb.alloc hb.size (.cells #[.int .i64 W, .int .i64 D, .int .i64 E] 48)
    have hL := Has.new wa [.int .i64 W, .int .i64 D, .int .i64 E] 48
    go_wp2_with fail
    refine (holds_c W D E a h _).mono ?_
    rintro e w1 ⟨rfl, hb⟩
    have hB := bt hB hb
    go_wp2
    go_ret2
    exact ⟨rfl, hB⟩
  · rw [ha, Bool.true_and] at hv
    go_enter Tryd.func26, Tryd.ntmps26
    go_wp2_with fail
    refine (layoutOf_c k W D E Hk.out _).mono ?_
    rintro e wa ⟨rfl, hb⟩
    have hB := hb.alloc hb.size (.cells #[.int .i64 W, .int .i64 D, .int .i64 E] 48)
    have hL := Has.new wa [.int .i64 W, .int .i64 D, .int .i64 E] 48
    go_wp2_with fail
    refine (holds_c W D E a h _).mono ?_
    rintro e w1 ⟨rfl, hb⟩
    have hB := bt hB hb
    have hL := hL.keep hb
    obtain ⟨l0, l1, l2⟩ := hL.c3
    go_wp2_with fail
    refine (holds_c W D E b h _).mono ?_
    rintro e w1 ⟨rfl, hb⟩
    have hB := bt hB hb
    go_wp2
    go_ret2
    exact ⟨rfl, hB⟩

set_option maxHeartbeats 1000000 in
theorem rasked_no (k m a b : Int) (hm : Mode m) (h2 : (k == 2) = false) (h4 : (k == 4) = false) (h8 : (k == 8) = false) (w : World) :
    Calls Tryd.prog 51 #[.int .i64 k, .int .i64 m, .int .i64 a, .int .i64 b] w fun e w' => e = .returned (.bool false) ∧ w = w' := by
  have H := Lib.hid (fun w' => rValid_no k a h2 h4 h8 w')
  clear h2 h4 h8
  rcases hm with rfl | rfl | rfl | rfl
  all_goals
    go_enter Tryd.func51, Tryd.ntmps51
    go_wp2_with (go_at_call 82; go_in)
    refine (H.out _).mono ?_
    rintro e w0 ⟨rfl, rfl⟩
    go_wp2
    go_ret
    exact ⟨rfl, rfl⟩

set_option maxHeartbeats 1000000 in
theorem rCompare_no (k a b : Int) (h2 : (k == 2) = false) (h4 : (k == 4) = false) (h8 : (k == 8) = false) (w : World) :
    Calls Tryd.prog 27 #[.int .i64 k, .int .i64 a, .int .i64 b] w fun e w' => e = .returned (.tuple #[.int .i64 0, .int .i64 2]) ∧ Below w.heap.size w w' := by
  have H := Lib.hid (fun w' => rasked_no k 0 a b (.inl rfl) h2 h4 h8 w')
  clear h2 h4 h8
  go_enter Tryd.func27, Tryd.ntmps27
  go_wp2_with fail
  refine (H.out _).mono ?_
  rintro e w0 ⟨rfl, rfl⟩
  go_wp2
  go_ret2
  exact ⟨rfl, Below.refl _ _⟩

set_option maxHeartbeats 1000000 in
theorem compares_law (k a b x e : Int) (v : Bool)
    (hc : ∀ w, Calls Tryd.prog 26 #[.int .i64 k, .int .i64 a, .int .i64 b] w fun e' w' => e' = .returned (.tuple #[.int .i64 x, .int .i64 e]) ∧ Below w.heap.size w w')
    (hr : ∀ w, Calls Tryd.prog 27 #[.int .i64 k, .int .i64 a, .int .i64 b] w fun e' w' => e' = .returned (.tuple #[.int .i64 x, .int .i64 e]) ∧ Below w.heap.size w w')
    (hv : ∀ w, Calls Tryd.prog 28 #[.int .i64 k, .int .i64 a] w fun e' w' => e' = .returned (.bool v) ∧ Below w.heap.size w w')
    (hs : ∀ w, Calls Tryd.prog 29 #[.int .i64 k, .int .i64 a] w fun e' w' => e' = .returned (.bool v) ∧ w = w')
    (w : World) (hcn : CN w) :
    Calls Tryd.prog 6 #[.int .i64 k, .int .i64 a, .int .i64 b] w fun e w' => e = .returned (.bool true) ∧ Below w.heap.size w w' := by
  have Hc := Lib.hid hc; clear hc
  have Hr := Lib.hid hr; clear hr
  have Hv := Lib.hid hv; clear hv
  have Hs := Lib.hid hs; clear hs
  have Hn := Lib.hid hcn; clear hcn
  have t1 : (x == x) = true := by simp
  have t3 : (e == e) = true := by simp
  have t4 : (v == v) = true := by simp
  go_enter Tryd.func6, Tryd.ntmps6
  go_wp2_with fail
  refine (Hc.out _).mono ?_
  rintro e w1 ⟨rfl, hB⟩
  go_wp2_with fail
  refine (Hr.out _).mono ?_
  rintro e w2 ⟨rfl, hb⟩
  have hB := bt hB hb
  go_wp2_with fail
  refine (Hv.out _).mono ?_
  rintro e w3 ⟨rfl, hb⟩
  have hB := bt hB hb
  go_wp2_with fail
  refine (Hs.out _).mono ?_
  rintro e w4 ⟨rfl, rfl⟩
  go_wp2_with fail
  refine (Awake_c _ (Hn.out.keep hB)).mono ?_
  rintro e w5 ⟨rfl, hb⟩
  have hB := bt hB hb
  go_wp2
  go_ret
  exact ⟨rfl, hB⟩

theorem floatCompares_walk (k a b : Int) (_hk : I64 k) (_hi : I64 a) (_hj : I64 b) (w : World) (hcn : CN w) :
    Calls Tryd.prog 6 #[.int .i64 k, .int .i64 a, .int .i64 b] w fun e w' => e = .returned (.bool true) ∧ Below w.heap.size w w' := by
  rcases kk_or2 k with ⟨W, D, E, hk⟩ | ⟨h2, h4, h8⟩
  · cases hv : (okB W a && okB W b)
    · exact compares_law k a b 0 2 (okB W a) (fun w' => Compare_out k W D E a b hk hv w') (fun w' => rCompare_out k W D E a b hk hv w') (fun w' => Valid_c k W D E a hk w') (fun w' => rValid_c k W D E a hk w') w hcn
    · have hv1 := hv
      rw [Bool.and_eq_true] at hv1
      exact compares_law k a b (cmpF W D a b) 0 (okB W a) (fun w' => Compare_c k W D E a b hk hv1.1 hv1.2 w') (fun w' => rCompare_c k W D E a b hk hv1.1 hv1.2 w') (fun w' => Valid_c k W D E a hk w') (fun w' => rValid_c k W D E a hk w') w hcn
  · exact compares_law k a b 0 2 false (fun w' => Compare_no k a b h2 h4 h8 w') (fun w' => rCompare_no k a b h2 h4 h8 w') (fun w' => Valid_no k a h2 h4 h8 w') (fun w' => rValid_no k a h2 h4 h8 w') w hcn

set_option maxRecDepth 100000 in
theorem floatCompares_lifted (os : Os) (started : os.Started) (H : Type) (enc : TypeId × Value → H) :
    ReturnsInHanded {} Tryd.checked os 6 .any (fun w args => (Rows.floatComparesSpec.pre enc Tryd.prog Tryd.f6 [] false w args ∧ laidMetH Tryd.prog laidL w) ∧ sizedMet enc Tryd.prog Tryd.f6 (OpenSpec.ofChange Rows.floatComparesSpec) false w args)
      (Rows.floatComparesSpec.post enc Tryd.prog Tryd.f6 false true false false) := by
  refine returnsInHanded_of_change_and (C := Tryd.checked) (X := fun w _ => laidMetH Tryd.prog laidL w) (fun _ _ _ hh h => h.of_heap hh) own started (by kernel_rfl) Tryd.func6
    (ChangeSpec.witness_shaped (enc := enc) (C := Tryd.checked) (os := os) (X := fun w _ => laidMetH Tryd.prog laidL w) false (World.doorLaid Tryd.prog 400 os) #[.int .i64 0, .int .i64 0, .int .i64 0] 8 rfl (World.shaped_of_RefB (by kernel_rfl) (by kernel_rfl)) (by kernel_rfl) (by kernel_rfl) (by kernel_rfl) (door_met os _)) ?_
  intro W base args ds gs before hval0 hW _ _ hL _
  have hval : ∀ (j : Nat) t v, Tryd.f6.params[j]? = some t → args[j]? = some v → Value.okWide Tryd.prog W .any base t v := hval0
  have hW' := hW
  obtain ⟨p, q, hA0, hV, rfl, hfz, hnd⟩ := hW
  have hA : DataW.TrodAll enc Tryd.prog W 0 (fun _ => true) true Tryd.f6.params.toList args.toList ds p := hA0
  rw [Tryd.params6] at hA hval
  obtain ⟨v0, vs0, d0, ds0, p0, q0, hargs, rfl, rfl, h0, r0⟩ := trodAll_cons hA
  obtain ⟨v1, vs1, d1, ds1, p1, q1, rfl, rfl, rfl, h1, r1⟩ := trodAll_cons r0
  obtain ⟨v2, vs2, d2, ds2, p2, q2, rfl, rfl, rfl, h2, r2⟩ := trodAll_cons r1
  obtain ⟨rfl, rfl, rfl⟩ := trodAll_nil r2
  obtain rfl : args = #[v0, v1, v2] := by cases args; simp_all
  obtain ⟨rfl, rfl⟩ := trodVars_none hV
  obtain ⟨a0, rfl, rfl, rfl, w0⟩ := open_int Tryd.underlying3 (hval 0 3 v0 rfl rfl) h0
  obtain ⟨a1, rfl, rfl, rfl, w1⟩ := open_int Tryd.underlying3 (hval 1 3 v1 rfl rfl) h1
  obtain ⟨a2, rfl, rfl, rfl, w2⟩ := open_int Tryd.underlying3 (hval 2 3 v2 rfl rfl) h2
  have hcn := of_laid hL
  clear hA0 hval0
  simp only [List.append_nil] at hW'
  refine (floatCompares_walk a0 a1 a2 (by have := bounds_i64 w0; unfold I64; omega) (by have := bounds_i64 w1; unfold I64; omega) (by have := bounds_i64 w2; unfold I64; omega) W hcn).mono fun e W' ⟨he, hb⟩ => ?_
  subst he
  exact ⟨_, rfl, post_plain hW' (fun _ _ _ => (trodAll_cons_mk (shut_bool Tryd.underlying4 _) trodAll_mk0)) (fun _ => (trodAll_cons_mk (shut_int Tryd.underlying3 w0) (trodAll_cons_mk (shut_int Tryd.underlying3 w1) (trodAll_cons_mk (shut_int Tryd.underlying3 w2) trodAll_mk0)))) (fun _ => rfl) hb (ok_one (by kernel_rfl) rfl (okWide_bool_mk Tryd.underlying4 _))⟩

theorem floatCompares_holds : Rows.FloatComparesSaid :=
  OpenClaim.holds_of_wide 6 Tryd.f6 rfl rfl rfl rfl rfl rfl rfl ⟨rfl, rfl, rfl, rfl, rfl⟩ rfl rfl rfl rfl rfl (by kernel_rfl) Tryd.func6 (by kernel_rfl)
    (of_decide_eq_true (by kernel_rfl)) (by unfold Func.isWrapper; first | (rw [if_pos (by decide +kernel)]; kernel_rfl) | (rw [if_neg (by decide +kernel)]; exact ⟨rfl, rfl⟩))
    (fun os started H enc _ => floatCompares_lifted os started H enc)

theorem floatCompares_card : Rows.FloatComparesCardSaid :=
  Claim7.holds_tied_plain_at .later [] [.data] true Rows.floatComparesCard.stood.harness false
    floatCompares_holds (fun _ h => by cases h) (by kernel_rfl) (fun _ h => by cases h) floatCompares_row_tie rfl ⟨rfl, rfl⟩ (by kernel_rfl) rfl
    (fun f fn hf hfn => by
      obtain rfl : f = 6 := Option.some.inj ((show Tryd.prog.funcNamed "quadrat/quadratlaw01.FloatCompares" = some 6 by kernel_rfl).symm.trans hf) |>.symm
      obtain rfl : fn = Tryd.f6 := (Option.some.inj (Tryd.func6.symm.trans hfn)).symm
      exact ⟨by kernel_rfl, fun j t ht => by
        rw [Tryd.params6] at ht
        have hm : t ∈ [3, 3, 3] := by simpa using Array.mem_of_getElem? ht
        have hall : ([3, 3, 3].all fun u => !Tryd.prog.wantsStandIn u) = true := by kernel_rfl
        exact (show Tryd.prog.wantsStandIn t = false by simpa using List.all_eq_true.1 hall t hm)⟩)
    (by kernel_rfl)
#print axioms floatCompares_card
end Go.Proofs.YtfdenbgmogojeaaDoor

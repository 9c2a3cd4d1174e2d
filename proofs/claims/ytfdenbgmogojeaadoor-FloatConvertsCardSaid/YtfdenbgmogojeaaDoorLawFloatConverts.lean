/-
  PROVED: the law FloatConverts (what a float becomes in another kind, and its flags, are those of the document's answer) returns true for every two ints and every struct of three ints and leaves them as they were. Conditions: the table of class names holds what the program's text lays (tied by the card).
-/
import Derived.Test.YtfdenbgmogojeaaDoorLawB
import Derived.Test.YtfdenbgmogojeaaDoorRefS
import Derived.Test.YtfdenbgmogojeaaDoorCards
import Derived.Test.YtfdenbgmogojeaaDoorTie
import Derived.SevenTiedAt
import Derived.Lib.SmallJoins
namespace Go.Proofs.YtfdenbgmogojeaaDoor
open Go Go.ChangeShapes Go.WideShapes Go.ChangeAt Go.WideMaps Go.WideElems Go.RowKit

theorem kk_or4 (k : Int) : NoK k ∨ (∃ W D E, KK k W D E) := by
  by_cases c2 : k = 2
  · exact .inr ⟨16, 11, 5, .inl ⟨c2, rfl, rfl, rfl⟩⟩
  by_cases c4 : k = 4
  · exact .inr ⟨32, 24, 8, .inr (.inl ⟨c4, rfl, rfl, rfl⟩)⟩
  by_cases c8 : k = 8
  · exact .inr ⟨64, 53, 11, .inr (.inr ⟨c8, rfl, rfl, rfl⟩)⟩
  · exact .inl ⟨by simp [c2], by simp [c4], by simp [c8]⟩

set_option maxHeartbeats 1000000 in
theorem converts_law (k t mode x y a n f : Int)
    (hc : ∀ w, Calls Tryd.prog 34 #[.int .i64 k, .int .i64 t, .int .i64 mode, .int .i64 x] w fun e' w' => e' = .returned (.tuple #[.int .i64 a, .int .i64 n, .int .i64 f]) ∧ Below w.heap.size w w')
    (hr : ∀ w, Calls Tryd.prog 35 #[.int .i64 k, .int .i64 t, .int .i64 mode, .int .i64 x] w fun e' w' => e' = .returned (.tuple #[.int .i64 a, .int .i64 n, .int .i64 f]) ∧ Below w.heap.size w w')
    (w : World) (hcn : CN w) :
    Calls Tryd.prog 8 #[.int .i64 k, .int .i64 t, .agg #[.int .i64 mode, .int .i64 x, .int .i64 y]] w fun e w' => e = .returned (.bool true) ∧ Below w.heap.size w w' := by
  have Hc := Lib.hid hc; clear hc
  have Hr := Lib.hid hr; clear hr
  have Hn := Lib.hid hcn; clear hcn
  have t1 : (a == a) = true := by simp
  have t2 : (n == n) = true := by simp
  have t3 : (f == f) = true := by simp
  go_enter Tryd.func8, Tryd.ntmps8
  go_wp2_with fail
  refine (Hc.out _).mono ?_
  rintro e' w1 ⟨rfl, hb⟩
  have hL := (Has.new w [.int .i64 mode, .int .i64 x, .int .i64 y] 23).keep hb
  have hB : Below w.heap.size w w1 := bt (by go_grown) hb
  obtain ⟨l0, l1, l2⟩ := hL.c3
  go_wp2_with fail
  refine (Hr.out _).mono ?_
  rintro e w2 ⟨rfl, hb⟩
  have hB := bt hB hb
  go_wp2_with fail
  refine (Awake_c _ (Hn.out.keep hB)).mono ?_
  rintro e w5 ⟨rfl, hb⟩
  have hB := bt hB hb
  go_wp2
  go_ret
  exact ⟨rfl, hB⟩

theorem floatConverts_walk (k t mode x y : Int) (_ : I64 k) (_ : I64 t) (_ : I64 mode) (_ : I64 x) (_ : I64 y) (w : World) (hcn : CN w) :
    Calls Tryd.prog 8 #[.int .i64 k, .int .i64 t, .agg #[.int .i64 mode, .int .i64 x, .int .i64 y]] w fun e w' => e = .returned (.bool true) ∧ Below w.heap.size w w' := by
  by_cases hm : Mode mode
  · rcases kk_or4 k with hk | ⟨Wf, Df, Ef, hk⟩
    · exact converts_law k t mode x y 0 0 2 (fun w' => Convert_nof k t mode x hk (kk_or4 t) w') (fun w' => rConvert_bad k t mode x (fun w'' => rasked_nok k mode x x hm hk w'') w') w hcn
    · cases hv : okB Wf x
      · have hb : ∀ w', Calls Tryd.prog 35 #[.int .i64 k, .int .i64 t, .int .i64 mode, .int .i64 x] w' fun e' w'' => e' = .returned (.tuple #[.int .i64 0, .int .i64 0, .int .i64 2]) ∧ Below w'.heap.size w' w'' := fun w' =>
          rConvert_bad k t mode x (fun w'' => by have h := rasked_c k Wf Df Ef mode x x hk hm w''; rw [hv] at h; exact h) w'
        rcases kk_or4 t with ht | ⟨W, D, E, ht⟩
        · exact converts_law k t mode x y 0 0 2 (fun w' => Convert_not k Wf Df Ef t mode x hk ht w') hb w hcn
        · exact converts_law k t mode x y 0 0 2 (fun w' => Convert_out k Wf Df Ef t W D E mode x hk ht hm hv w') hb w hcn
      · rcases kk_or4 t with ht | ⟨W, D, E, ht⟩
        · exact converts_law k t mode x y 0 0 2 (fun w' => Convert_not k Wf Df Ef t mode x hk ht w') (fun w' => rConvert_not k Wf Df Ef t mode x hk hm hv ht w') w hcn
        · have hc := cls_nn Df (siz Wf x)
          have hc5 : cls Df (siz Wf x) = 0 ∨ cls Df (siz Wf x) = 3 ∨ cls Df (siz Wf x) = 4 ∨ (cls Df (siz Wf x) = 1 ∨ cls Df (siz Wf x) = 2) := by omega
          rcases hc5 with c | c | c | c
          · exact converts_law k t mode x y _ _ _ (fun w' => Convert_zero k Wf Df Ef t W D E mode x hk ht hm hv c w') (fun w' => rConvert_zero k Wf Df Ef t W D E mode x hk ht hm hv c w') w hcn
          · exact converts_law k t mode x y _ _ _ (fun w' => Convert_inf k Wf Df Ef t W D E mode x hk ht hm hv c w') (fun w' => rConvert_inf k Wf Df Ef t W D E mode x hk ht hm hv c w') w hcn
          · exact converts_law k t mode x y _ _ _ (fun w' => Convert_none k Wf Df Ef t W D E mode x hk ht hm hv c w') (fun w' => rConvert_none k Wf Df Ef t W D E mode x hk ht hm hv c w') w hcn
          · exact converts_law k t mode x y _ _ _ (fun w' => Convert_fin k Wf Df Ef t W D E mode x hk ht hm hv c w') (fun w' => rConvert_fin k Wf Df Ef t W D E mode x hk ht hm hv c w') w hcn
  · have hb : ∀ w', Calls Tryd.prog 35 #[.int .i64 k, .int .i64 t, .int .i64 mode, .int .i64 x] w' fun e' w'' => e' = .returned (.tuple #[.int .i64 0, .int .i64 0, .int .i64 2]) ∧ Below w'.heap.size w' w'' := fun w' =>
      rConvert_bad k t mode x (fun w'' => rasked_nom k mode x x hm w'') w'
    rcases kk_or4 k with hk | ⟨Wf, Df, Ef, hk⟩
    · exact converts_law k t mode x y 0 0 2 (fun w' => Convert_nof k t mode x hk (kk_or4 t) w') hb w hcn
    · rcases kk_or4 t with ht | ⟨W, D, E, ht⟩
      · exact converts_law k t mode x y 0 0 2 (fun w' => Convert_not k Wf Df Ef t mode x hk ht w') hb w hcn
      · exact converts_law k t mode x y 0 0 2 (fun w' => Convert_mode k Wf Df Ef t W D E mode x hk ht hm w') hb w hcn

set_option maxRecDepth 100000 in
theorem floatConverts_lifted (os : Os) (started : os.Started) (H : Type) (enc : TypeId × Value → H) :
    ReturnsInHanded {} Tryd.checked os 8 .any (fun w args => (Rows.floatConvertsSpec.pre enc Tryd.prog Tryd.f8 [] false w args ∧ laidMetH Tryd.prog laidL w) ∧ sizedMet enc Tryd.prog Tryd.f8 (OpenSpec.ofChange Rows.floatConvertsSpec) false w args)
      (Rows.floatConvertsSpec.post enc Tryd.prog Tryd.f8 false true false false) := by
  refine returnsInHanded_of_change_and (C := Tryd.checked) (X := fun w _ => laidMetH Tryd.prog laidL w) (fun _ _ _ hh h => h.of_heap hh) own started (by kernel_rfl) Tryd.func8
    (ChangeSpec.witness_shaped (enc := enc) (C := Tryd.checked) (os := os) (X := fun w _ => laidMetH Tryd.prog laidL w) false (World.doorLaid Tryd.prog 400 os) #[.int .i64 0, .int .i64 0, .agg #[.int .i64 0, .int .i64 0, .int .i64 0]] 8 rfl (World.shaped_of_RefB (by kernel_rfl) (by kernel_rfl)) (by kernel_rfl) (by kernel_rfl) (by kernel_rfl) (door_met os _)) ?_
  intro W base args ds gs before hval0 hW _ _ hL _
  have hval : ∀ (j : Nat) t v, Tryd.f8.params[j]? = some t → args[j]? = some v → Value.okWide Tryd.prog W .any base t v := hval0
  have hW' := hW
  obtain ⟨p, q, hA0, hV, rfl, hfz, hnd⟩ := hW
  have hA : DataW.TrodAll enc Tryd.prog W 0 (fun _ => true) true Tryd.f8.params.toList args.toList ds p := hA0
  rw [Tryd.params8] at hA hval
  obtain ⟨v0, vs0, d0, ds0, p0, q0, hargs, rfl, rfl, h0, r0⟩ := trodAll_cons hA
  obtain ⟨v1, vs1, d1, ds1, p1, q1, rfl, rfl, rfl, h1, r1⟩ := trodAll_cons r0
  obtain ⟨v2, vs2, d2, ds2, p2, q2, rfl, rfl, rfl, h2, r2⟩ := trodAll_cons r1
  obtain ⟨rfl, rfl, rfl⟩ := trodAll_nil r2
  obtain rfl : args = #[v0, v1, v2] := by cases args; simp_all
  obtain ⟨rfl, rfl⟩ := trodVars_none hV
  obtain ⟨a0, rfl, rfl, rfl, w0⟩ := open_int Tryd.underlying3 (hval 0 3 v0 rfl rfl) h0
  obtain ⟨a1, rfl, rfl, rfl, w1⟩ := open_int Tryd.underlying3 (hval 1 3 v1 rfl rfl) h1
  obtain ⟨c2_0, c2_1, c2_2, y2_0, y2_1, y2_2, m2, rfl, rfl, rfl, g2_0, g2_1, g2_2⟩ := Go.Joins.open_agg3 Tryd.underlying23 (by kernel_rfl) (show Tryd.prog.cellsOf 23 = 3 by kernel_rfl) (hval 2 23 v2 rfl rfl) h2
  obtain ⟨b2_0, e2_0, rfl, x2_0⟩ := DataW.trod_int Tryd.underlying3 g2_0
  simp only [List.cons.injEq, and_true] at e2_0
  subst e2_0
  obtain ⟨b2_1, e2_1, rfl, x2_1⟩ := DataW.trod_int Tryd.underlying3 g2_1
  simp only [List.cons.injEq, and_true] at e2_1
  subst e2_1
  obtain ⟨b2_2, e2_2, rfl, x2_2⟩ := DataW.trod_int Tryd.underlying3 g2_2
  simp only [List.cons.injEq, and_true] at e2_2
  subst e2_2
  have hcn := of_laid hL
  clear hA0 hval0
  simp only [List.append_nil] at hW'
  refine (floatConverts_walk a0 a1 b2_0 b2_1 b2_2 (by have := bounds_i64 w0; unfold I64; omega) (by have := bounds_i64 w1; unfold I64; omega) (by have := bounds_i64 x2_0; unfold I64; omega) (by have := bounds_i64 x2_1; unfold I64; omega) (by have := bounds_i64 x2_2; unfold I64; omega) W hcn).mono fun e W' ⟨he, hb⟩ => ?_
  subst he
  exact ⟨_, rfl, post_plain hW' (fun _ _ _ => (trodAll_cons_mk (shut_bool Tryd.underlying4 _) trodAll_mk0)) (fun _ => (trodAll_cons_mk (shut_int Tryd.underlying3 w0) (trodAll_cons_mk (shut_int Tryd.underlying3 w1) (trodAll_cons_mk (Go.Joins.shut_agg3 (y0 := (.lit (.int .i64 b2_0), [])) (y1 := (.lit (.int .i64 b2_1), [])) (y2 := (.lit (.int .i64 b2_2), [])) Tryd.underlying23 (by kernel_rfl) (show Tryd.prog.cellsOf 23 = 3 by kernel_rfl) ⟨1, by simp [DataW.trod, Tryd.underlying3, x2_0]⟩ ⟨1, by simp [DataW.trod, Tryd.underlying3, x2_1]⟩ ⟨1, by simp [DataW.trod, Tryd.underlying3, x2_2]⟩) trodAll_mk0)))) (fun _ => rfl) hb (ok_one (by kernel_rfl) rfl (okWide_bool_mk Tryd.underlying4 _))⟩

theorem floatConverts_holds : Rows.FloatConvertsSaid :=
  OpenClaim.holds_of_wide 8 Tryd.f8 rfl rfl rfl rfl rfl rfl rfl ⟨rfl, rfl, rfl, rfl, rfl⟩ rfl rfl rfl rfl rfl (by kernel_rfl) Tryd.func8 (by kernel_rfl)
    (of_decide_eq_true (by kernel_rfl)) (by unfold Func.isWrapper; first | (rw [if_pos (by decide +kernel)]; kernel_rfl) | (rw [if_neg (by decide +kernel)]; exact ⟨rfl, rfl⟩))
    (fun os started H enc _ => floatConverts_lifted os started H enc)

theorem floatConverts_card : Rows.FloatConvertsCardSaid :=
  Claim7.holds_tied_plain_at .later [] [.data] true Rows.floatConvertsCard.stood.harness false
    floatConverts_holds (fun _ h => by cases h) (by kernel_rfl) (fun _ h => by cases h) floatConverts_row_tie rfl ⟨rfl, rfl⟩ (by kernel_rfl) rfl
    (fun f fn hf hfn => by
      obtain rfl : f = 8 := Option.some.inj ((show Tryd.prog.funcNamed "quadrat/quadratlaw01.FloatConverts" = some 8 by kernel_rfl).symm.trans hf) |>.symm
      obtain rfl : fn = Tryd.f8 := (Option.some.inj (Tryd.func8.symm.trans hfn)).symm
      exact ⟨by kernel_rfl, fun j t ht => by
        rw [Tryd.params8] at ht
        have hm : t ∈ [3, 3, 23] := by simpa using Array.mem_of_getElem? ht
        have hall : ([3, 3, 23].all fun u => !Tryd.prog.wantsStandIn u) = true := by kernel_rfl
        exact (show Tryd.prog.wantsStandIn t = false by simpa using List.all_eq_true.1 hall t hm)⟩)
    (by kernel_rfl)
#print axioms floatConverts_card
end Go.Proofs.YtfdenbgmogojeaaDoor

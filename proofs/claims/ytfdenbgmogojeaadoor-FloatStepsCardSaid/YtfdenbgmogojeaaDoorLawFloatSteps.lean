/-
  PROVED: the law FloatSteps (the next one up of the next one down is the float again) returns true for every two ints and leaves them as they were. Conditions: the table of class names holds what the program's text lays (tied by the card).
-/
import Derived.Test.YtfdenbgmogojeaaDoorLawB
import Derived.Test.YtfdenbgmogojeaaDoorFloY
import Derived.Test.YtfdenbgmogojeaaDoorFloZ
import Derived.Test.YtfdenbgmogojeaaDoorCards
import Derived.Test.YtfdenbgmogojeaaDoorTie
import Derived.SevenTiedAt
namespace Go.Proofs.YtfdenbgmogojeaaDoor
open Go Go.ChangeShapes Go.WideShapes Go.ChangeAt Go.WideMaps Go.WideElems Go.RowKit

theorem kk_or (k : Int) : (∃ W D E, KK k W D E) ∨ ((k == 2) = false ∧ (k == 4) = false ∧ (k == 8) = false) := by
  by_cases c2 : k = 2
  · exact .inl ⟨16, 11, 5, .inl ⟨c2, rfl, rfl, rfl⟩⟩
  by_cases c4 : k = 4
  · exact .inl ⟨32, 24, 8, .inr (.inl ⟨c4, rfl, rfl, rfl⟩)⟩
  by_cases c8 : k = 8
  · exact .inl ⟨64, 53, 11, .inr (.inr ⟨c8, rfl, rfl, rfl⟩)⟩
  · exact .inr ⟨by simp [c2], by simp [c4], by simp [c8]⟩

/-- The names that are neither 'least' nor 'normal'. -/
def otherName (n : ByteArray) : Prop := n = ⟨#[]⟩ ∨ n = ⟨#[122, 101, 114, 111]⟩ ∨ n = ⟨#[105, 110, 102, 105, 110, 105, 116, 101]⟩ ∨ n = ⟨#[110, 111, 110, 101]⟩

set_option maxHeartbeats 1000000 in
theorem steps_other (k a : Int) (n : ByteArray) (hn : otherName n) (hc : ∀ w, CN w → Calls Tryd.prog 42 #[.int .i64 k, .int .i64 a] w fun e w' => e = .returned (.string n) ∧ Below w.heap.size w w') (w : World) (hcn : CN w) :
    Calls Tryd.prog 14 #[.int .i64 k, .int .i64 a] w fun e w' => e = .returned (.bool true) ∧ Below w.heap.size w w' := by
  have Hc := Lib.hid hc; clear hc
  have Hn := Lib.hid hcn; clear hcn
  rcases hn with rfl | rfl | rfl | rfl
  all_goals
    go_enter Tryd.func14, Tryd.ntmps14
    go_wp2_with fail
    refine (Hc.out _ Hn.out).mono ?_
    rintro e w1 ⟨rfl, hb⟩
    go_wp2_with fail
    refine (Awake_c _ (Hn.out.keep hb)).mono ?_
    rintro e w2 ⟨rfl, hb2⟩
    go_wp2
    go_ret
    exact ⟨rfl, bt hb hb2⟩

set_option maxHeartbeats 2000000 in
theorem steps_main (k W D E a : Int) (hk : KK k W D E) (hv : okB W a = true) (hi : I64 a) (i : Nat) (n : ByteArray) (hin : (i = 1 ∧ n = ⟨#[108, 101, 97, 115, 116]⟩) ∨ (i = 2 ∧ n = ⟨#[110, 111, 114, 109, 97, 108]⟩)) (hc : cls D (siz W a) = (i : Int)) (w : World) (hcn : CN w) :
    Calls Tryd.prog 14 #[.int .i64 k, .int .i64 a] w fun e w' => e = .returned (.bool true) ∧ Below w.heap.size w w' := by
  have hm := Lib.hid (steps_math W D E a hk.kl hv hi (by rcases hin with ⟨rfl, _⟩ | ⟨rfl, _⟩ <;> simp [hc]))
  have hi5 : i < 5 := by rcases hin with ⟨rfl, _⟩ | ⟨rfl, _⟩ <;> omega
  have hnl : namesL[i]? = some n := by rcases hin with ⟨rfl, rfl⟩ | ⟨rfl, rfl⟩ <;> rfl
  have Hc := Lib.hid (Class_c k W D E a i n hk hv hi5 hc w (hcn i n hnl))
  have Hk := Lib.hid hk
  have Hn := Lib.hid hcn
  have Hv := Lib.hid hv
  clear hk hc hcn hi hi5 hnl hv
  rcases hin with ⟨rfl, rfl⟩ | ⟨rfl, rfl⟩
  all_goals
    go_enter Tryd.func14, Tryd.ntmps14
    go_wp2_with fail
    refine Hc.out.mono ?_
    rintro e w1 ⟨rfl, hB⟩
    go_wp2_with fail
    refine (Next_c k W D E a false Hk.out Hv.out _).mono ?_
    rintro e w2 ⟨rfl, hb⟩
    have hB := bt hB hb
    go_wp2_with fail
    refine (Next_c k W D E _ true Hk.out hm.out.1 _).mono ?_
    rw [hm.out.2.2.1]
    rintro e w3 ⟨rfl, hb⟩
    have hB := bt hB hb
    go_wp2_with fail
    refine (Next_c k W D E a true Hk.out Hv.out _).mono ?_
    rintro e w4 ⟨rfl, hb⟩
    have hB := bt hB hb
    go_wp2_with fail
    refine (Next_c k W D E _ false Hk.out hm.out.2.1 _).mono ?_
    rw [hm.out.2.2.2.1]
    rintro e w5 ⟨rfl, hb⟩
    have hB := bt hB hb
    go_wp2_with fail
    refine (Compare_c k W D E _ a Hk.out hm.out.1 Hv.out _).mono ?_
    rw [hm.out.2.2.2.2]
    rintro e w6 ⟨rfl, hb⟩
    have hB := bt hB hb
    go_wp2_with fail
    refine (Awake_c _ (Hn.out.keep hB)).mono ?_
    rintro e w7 ⟨rfl, hb⟩
    have hB := bt hB hb
    go_wp2
    go_ret
    exact ⟨rfl, hB⟩

theorem floatSteps_walk (k a : Int) (_hk : I64 k) (hi : I64 a) (w : World) (hcn : CN w) :
    Calls Tryd.prog 14 #[.int .i64 k, .int .i64 a] w fun e w' => e = .returned (.bool true) ∧ Below w.heap.size w w' := by
  rcases kk_or k with ⟨W, D, E, hk⟩ | ⟨h2, h4, h8⟩
  · cases hv : okB W a
    · exact steps_other k a _ (.inl rfl) (fun w' _ => Class_out k W D E a hk hv w') w hcn
    · have hb := cls_nn D (siz W a)
      have hc : cls D (siz W a) = 0 ∨ cls D (siz W a) = 1 ∨ cls D (siz W a) = 2 ∨ cls D (siz W a) = 3 ∨ cls D (siz W a) = 4 := by omega
      rcases hc with c | c | c | c | c
      · exact steps_other k a _ (.inr (.inl rfl)) (fun w' h' => Class_c k W D E a 0 _ hk hv (by decide) c w' (h' 0 _ rfl)) w hcn
      · exact steps_main k W D E a hk hv hi 1 _ (.inl ⟨rfl, rfl⟩) c w hcn
      · exact steps_main k W D E a hk hv hi 2 _ (.inr ⟨rfl, rfl⟩) c w hcn
      · exact steps_other k a _ (.inr (.inr (.inl rfl))) (fun w' h' => Class_c k W D E a 3 _ hk hv (by decide) c w' (h' 3 _ rfl)) w hcn
      · exact steps_other k a _ (.inr (.inr (.inr rfl))) (fun w' h' => Class_c k W D E a 4 _ hk hv (by decide) c w' (h' 4 _ rfl)) w hcn
  · exact steps_other k a _ (.inl rfl) (fun w' _ => Class_no k a h2 h4 h8 w') w hcn

set_option maxRecDepth 100000 in
theorem floatSteps_lifted (os : Os) (started : os.Started) (H : Type) (enc : TypeId × Value → H) :
    ReturnsInHanded {} Tryd.checked os 14 .any (fun w args => (Rows.floatStepsSpec.pre enc Tryd.prog Tryd.f14 [] false w args ∧ laidMetH Tryd.prog laidL w) ∧ sizedMet enc Tryd.prog Tryd.f14 (OpenSpec.ofChange Rows.floatStepsSpec) false w args)
      (Rows.floatStepsSpec.post enc Tryd.prog Tryd.f14 false true false false) := by
  refine returnsInHanded_of_change_and (C := Tryd.checked) (X := fun w _ => laidMetH Tryd.prog laidL w) (fun _ _ _ hh h => h.of_heap hh) own started (by kernel_rfl) Tryd.func14
    (ChangeSpec.witness_shaped (enc := enc) (C := Tryd.checked) (os := os) (X := fun w _ => laidMetH Tryd.prog laidL w) false (World.doorLaid Tryd.prog 400 os) #[.int .i64 0, .int .i64 0] 8 rfl (World.shaped_of_RefB (by kernel_rfl) (by kernel_rfl)) (by kernel_rfl) (by kernel_rfl) (by kernel_rfl) (door_met os _)) ?_
  intro W base args ds gs before hval0 hW _ _ hL _
  have hval : ∀ (j : Nat) t v, Tryd.f14.params[j]? = some t → args[j]? = some v → Value.okWide Tryd.prog W .any base t v := hval0
  have hW' := hW
  obtain ⟨p, q, hA0, hV, rfl, hfz, hnd⟩ := hW
  have hA : DataW.TrodAll enc Tryd.prog W 0 (fun _ => true) true Tryd.f14.params.toList args.toList ds p := hA0
  rw [Tryd.params14] at hA hval
  obtain ⟨v0, vs0, d0, ds0, p0, q0, hargs, rfl, rfl, h0, r0⟩ := trodAll_cons hA
  obtain ⟨v1, vs1, d1, ds1, p1, q1, rfl, rfl, rfl, h1, r1⟩ := trodAll_cons r0
  obtain ⟨rfl, rfl, rfl⟩ := trodAll_nil r1
  obtain rfl : args = #[v0, v1] := by cases args; simp_all
  obtain ⟨rfl, rfl⟩ := trodVars_none hV
  obtain ⟨a0, rfl, rfl, rfl, w0⟩ := open_int Tryd.underlying3 (hval 0 3 v0 rfl rfl) h0
  obtain ⟨a1, rfl, rfl, rfl, w1⟩ := open_int Tryd.underlying3 (hval 1 3 v1 rfl rfl) h1
  have hcn := of_laid hL
  clear hA0 hval0
  simp only [List.append_nil] at hW'
  refine (floatSteps_walk a0 a1 (by have := bounds_i64 w0; unfold I64; omega) (by have := bounds_i64 w1; unfold I64; omega) W hcn).mono fun e W' ⟨he, hb⟩ => ?_
  subst he
  exact ⟨_, rfl, post_plain hW' (fun _ _ _ => (trodAll_cons_mk (shut_bool Tryd.underlying4 _) trodAll_mk0)) (fun _ => (trodAll_cons_mk (shut_int Tryd.underlying3 w0) (trodAll_cons_mk (shut_int Tryd.underlying3 w1) trodAll_mk0))) (fun _ => rfl) hb (ok_one (by kernel_rfl) rfl (okWide_bool_mk Tryd.underlying4 _))⟩

theorem floatSteps_holds : Rows.FloatStepsSaid :=
  OpenClaim.holds_of_wide 14 Tryd.f14 rfl rfl rfl rfl rfl rfl rfl ⟨rfl, rfl, rfl, rfl, rfl⟩ rfl rfl rfl rfl rfl (by kernel_rfl) Tryd.func14 (by kernel_rfl)
    (of_decide_eq_true (by kernel_rfl)) (by unfold Func.isWrapper; first | (rw [if_pos (by decide +kernel)]; kernel_rfl) | (rw [if_neg (by decide +kernel)]; exact ⟨rfl, rfl⟩))
    (fun os started H enc _ => floatSteps_lifted os started H enc)

theorem floatSteps_card : Rows.FloatStepsCardSaid :=
  Claim7.holds_tied_plain_at .later [] [.data] true Rows.floatStepsCard.stood.harness false
    floatSteps_holds (fun _ h => by cases h) (by kernel_rfl) (fun _ h => by cases h) floatSteps_row_tie rfl ⟨rfl, rfl⟩ (by kernel_rfl) rfl
    (fun f fn hf hfn => by
      obtain rfl : f = 14 := Option.some.inj ((show Tryd.prog.funcNamed "quadrat/quadratlaw01.FloatSteps" = some 14 by kernel_rfl).symm.trans hf) |>.symm
      obtain rfl : fn = Tryd.f14 := (Option.some.inj (Tryd.func14.symm.trans hfn)).symm
      exact ⟨by kernel_rfl, fun j t ht => by
        rw [Tryd.params14] at ht
        have hm : t ∈ [3, 3] := by simpa using Array.mem_of_getElem? ht
        have hall : ([3, 3].all fun u => !Tryd.prog.wantsStandIn u) = true := by kernel_rfl
        exact (show Tryd.prog.wantsStandIn t = false by simpa using List.all_eq_true.1 hall t hm)⟩)
    (by kernel_rfl)
#print axioms floatSteps_card
end Go.Proofs.YtfdenbgmogojeaaDoor

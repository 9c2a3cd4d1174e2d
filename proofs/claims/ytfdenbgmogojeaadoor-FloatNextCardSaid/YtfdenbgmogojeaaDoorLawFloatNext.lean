/-
  PROVED: the law FloatNext (the next floats up and down are those of the document's answer) returns true for every two ints and leaves them as they were. Conditions: the table of class names holds what the program's text lays (tied by the card).
-/
import Derived.Test.YtfdenbgmogojeaaDoorLawB
import Derived.Test.YtfdenbgmogojeaaDoorRefD
import Derived.Test.YtfdenbgmogojeaaDoorCards
import Derived.Test.YtfdenbgmogojeaaDoorTie
import Derived.SevenTiedAt
namespace Go.Proofs.YtfdenbgmogojeaaDoor
open Go Go.ChangeShapes Go.WideShapes Go.ChangeAt Go.WideMaps Go.WideElems Go.RowKit

theorem kk_or' (k : Int) : (∃ W D E, KK k W D E) ∨ ((k == 2) = false ∧ (k == 4) = false ∧ (k == 8) = false) := by
  by_cases c2 : k = 2
  · exact .inl ⟨16, 11, 5, .inl ⟨c2, rfl, rfl, rfl⟩⟩
  by_cases c4 : k = 4
  · exact .inl ⟨32, 24, 8, .inr (.inl ⟨c4, rfl, rfl, rfl⟩)⟩
  by_cases c8 : k = 8
  · exact .inl ⟨64, 53, 11, .inr (.inr ⟨c8, rfl, rfl, rfl⟩)⟩
  · exact .inr ⟨by simp [c2], by simp [c4], by simp [c8]⟩

set_option maxHeartbeats 1000000 in
theorem next_law (k a : Int) (x y : Bool → Int) (e : Int)
    (hc : ∀ up w, Calls Tryd.prog 46 #[.int .i64 k, .int .i64 a, .bool up] w fun e' w' => e' = .returned (.tuple #[.int .i64 (x up), .int .i64 e]) ∧ Below w.heap.size w w')
    (hr : ∀ up w, Calls Tryd.prog 47 #[.int .i64 k, .int .i64 a, .bool up] w fun e' w' => e' = .returned (.tuple #[.int .i64 (y up), .int .i64 e]) ∧ Below w.heap.size w w')
    (hxy : ∀ up, x up = y up) (w : World) (hcn : CN w) :
    Calls Tryd.prog 11 #[.int .i64 k, .int .i64 a] w fun e w' => e = .returned (.bool true) ∧ Below w.heap.size w w' := by
  have Hc := Lib.hid hc; clear hc
  have Hr := Lib.hid hr; clear hr
  have Hn := Lib.hid hcn; clear hcn
  have hx1 := hxy true
  have hx2 := hxy false
  have t1 : (y true == y true) = true := by simp
  have t2 : (y false == y false) = true := by simp
  have t3 : (e == e) = true := by simp
  clear hxy
  go_enter Tryd.func11, Tryd.ntmps11
  go_wp2_with fail
  refine (Hc.out true _).mono ?_
  rintro e w1 ⟨rfl, hB⟩
  go_wp2_with fail
  refine (Hr.out true _).mono ?_
  rintro e w2 ⟨rfl, hb⟩
  have hB := bt hB hb
  go_wp2_with fail
  refine (Hc.out false _).mono ?_
  rintro e w3 ⟨rfl, hb⟩
  have hB := bt hB hb
  go_wp2_with fail
  refine (Hr.out false _).mono ?_
  rintro e w4 ⟨rfl, hb⟩
  have hB := bt hB hb
  go_wp2_with fail
  refine (Awake_c _ (Hn.out.keep hB)).mono ?_
  rintro e w5 ⟨rfl, hb⟩
  have hB := bt hB hb
  go_wp2
  go_ret
  exact ⟨rfl, hB⟩

theorem floatNext_walk (k a : Int) (_hk : I64 k) (hi : I64 a) (w : World) (hcn : CN w) :
    Calls Tryd.prog 11 #[.int .i64 k, .int .i64 a] w fun e w' => e = .returned (.bool true) ∧ Below w.heap.size w w' := by
  rcases kk_or' k with ⟨W, D, E, hk⟩ | ⟨h2, h4, h8⟩
  · cases hv : okB W a
    · exact next_law k a (fun _ => 0) (fun _ => 0) 2 (fun up w' => Next_out k W D E a up hk hv w') (fun up w' => rNext_out k W D E a up hk hv w') (fun _ => rfl) w hcn
    · exact next_law k a (fun up => nextF W D a up) (fun up => nextF W D a up) 0 (fun up w' => Next_c k W D E a up hk hv w') (fun up w' => rNext_c k W D E a up hk hv hi w') (fun _ => rfl) w hcn
  · exact next_law k a (fun _ => 0) (fun _ => 0) 2 (fun up w' => Next_no k a up h2 h4 h8 w') (fun up w' => rNext_no k a up h2 h4 h8 w') (fun _ => rfl) w hcn

set_option maxRecDepth 100000 in
theorem floatNext_lifted (os : Os) (started : os.Started) (H : Type) (enc : TypeId × Value → H) :
    ReturnsInHanded {} Tryd.checked os 11 .any (fun w args => (Rows.floatNextSpec.pre enc Tryd.prog Tryd.f11 [] false w args ∧ laidMetH Tryd.prog laidL w) ∧ sizedMet enc Tryd.prog Tryd.f11 (OpenSpec.ofChange Rows.floatNextSpec) false w args)
      (Rows.floatNextSpec.post enc Tryd.prog Tryd.f11 false true false false) := by
  refine returnsInHanded_of_change_and (C := Tryd.checked) (X := fun w _ => laidMetH Tryd.prog laidL w) (fun _ _ _ hh h => h.of_heap hh) own started (by kernel_rfl) Tryd.func11
    (ChangeSpec.witness_shaped (enc := enc) (C := Tryd.checked) (os := os) (X := fun w _ => laidMetH Tryd.prog laidL w) false (World.doorLaid Tryd.prog 400 os) #[.int .i64 0, .int .i64 0] 8 rfl (World.shaped_of_RefB (by kernel_rfl) (by kernel_rfl)) (by kernel_rfl) (by kernel_rfl) (by kernel_rfl) (door_met os _)) ?_
  intro W base args ds gs before hval0 hW _ _ hL _
  have hval : ∀ (j : Nat) t v, Tryd.f11.params[j]? = some t → args[j]? = some v → Value.okWide Tryd.prog W .any base t v := hval0
  have hW' := hW
  obtain ⟨p, q, hA0, hV, rfl, hfz, hnd⟩ := hW
  have hA : DataW.TrodAll enc Tryd.prog W 0 (fun _ => true) true Tryd.f11.params.toList args.toList ds p := hA0
  rw [Tryd.params11] at hA hval
  obtain ⟨v0, vs0, d0, ds0, p0, q0, hargs, rfl, rfl, h0, r0⟩ := trodAll_cons hA
  obtain ⟨v1, vs1, d1, ds1, p1, q1, rfl, rfl, rfl, h1, r1⟩ := trodAll_cons r0
  obtain ⟨rfl, rfl, rfl⟩ := trodAll_nil r1
  obtain rfl : args = #[v0, v1] := by cases args; simp_all
  obtain ⟨rfl, rfl⟩ := trodVars_none hV
  obtain ⟨a0, rfl, rfl, rfl, w0⟩ := open_int Tryd.underlying3 (hval 0 3 v0 rfl rfl) h0
  obtain ⟨a1, rfl, rfl, rfl, w1⟩ := open_int Tryd.underlying3 (hval 1 3 v1 rfl rfl) h1
  have hcn := of_laid hL
  clear hA0 hval0
  simp only [List.append_nil] at hW'
  refine (floatNext_walk a0 a1 (by have := bounds_i64 w0; unfold I64; omega) (by have := bounds_i64 w1; unfold I64; omega) W hcn).mono fun e W' ⟨he, hb⟩ => ?_
  subst he
  exact ⟨_, rfl, post_plain hW' (fun _ _ _ => (trodAll_cons_mk (shut_bool Tryd.underlying4 _) trodAll_mk0)) (fun _ => (trodAll_cons_mk (shut_int Tryd.underlying3 w0) (trodAll_cons_mk (shut_int Tryd.underlying3 w1) trodAll_mk0))) (fun _ => rfl) hb (ok_one (by kernel_rfl) rfl (okWide_bool_mk Tryd.underlying4 _))⟩

theorem floatNext_holds : Rows.FloatNextSaid :=
  OpenClaim.holds_of_wide 11 Tryd.f11 rfl rfl rfl rfl rfl rfl rfl ⟨rfl, rfl, rfl, rfl, rfl⟩ rfl rfl rfl rfl rfl (by kernel_rfl) Tryd.func11 (by kernel_rfl)
    (of_decide_eq_true (by kernel_rfl)) (by unfold Func.isWrapper; first | (rw [if_pos (by decide +kernel)]; kernel_rfl) | (rw [if_neg (by decide +kernel)]; exact ⟨rfl, rfl⟩))
    (fun os started H enc _ => floatNext_lifted os started H enc)

theorem floatNext_card : Rows.FloatNextCardSaid :=
  Claim7.holds_tied_plain_at .later [] [.data] true Rows.floatNextCard.stood.harness false
    floatNext_holds (fun _ h => by cases h) (by kernel_rfl) (fun _ h => by cases h) floatNext_row_tie rfl ⟨rfl, rfl⟩ (by kernel_rfl) rfl
    (fun f fn hf hfn => by
      obtain rfl : f = 11 := Option.some.inj ((show Tryd.prog.funcNamed "quadrat/quadratlaw01.FloatNext" = some 11 by kernel_rfl).symm.trans hf) |>.symm
      obtain rfl : fn = Tryd.f11 := (Option.some.inj (Tryd.func11.symm.trans hfn)).symm
      exact ⟨by kernel_rfl, fun j t ht => by
        rw [Tryd.params11] at ht
        have hm : t ∈ [3, 3] := by simpa using Array.mem_of_getElem? ht
        have hall : ([3, 3].all fun u => !Tryd.prog.wantsStandIn u) = true := by kernel_rfl
        exact (show Tryd.prog.wantsStandIn t = false by simpa using List.all_eq_true.1 hall t hm)⟩)
    (by kernel_rfl)
#print axioms floatNext_card
end Go.Proofs.YtfdenbgmogojeaaDoor

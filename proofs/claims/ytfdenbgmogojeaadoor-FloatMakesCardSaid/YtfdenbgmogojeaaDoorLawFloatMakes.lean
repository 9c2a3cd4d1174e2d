/-
  PROVED: the law FloatMakes (the float that a number becomes, and its flags, are those of the document's answer) returns true for every int and every struct of four ints and leaves them as they were. Conditions: the table of class names holds what the program's text lays (tied by the card).
-/
import Derived.Test.YtfdenbgmogojeaaDoorLawB
import Derived.Test.YtfdenbgmogojeaaDoorRefR
import Derived.Test.YtfdenbgmogojeaaDoorCards
import Derived.Test.YtfdenbgmogojeaaDoorTie
import Derived.SevenTiedAt
import Derived.Lib.SmallJoins
namespace Go.Proofs.YtfdenbgmogojeaaDoor
open Go Go.ChangeShapes Go.WideShapes Go.ChangeAt Go.WideMaps Go.WideElems Go.RowKit

theorem kk_or3 (k : Int) : (∃ W D E, KK k W D E) ∨ ((k == 2) = false ∧ (k == 4) = false ∧ (k == 8) = false) := by
  by_cases c2 : k = 2
  · exact .inl ⟨16, 11, 5, .inl ⟨c2, rfl, rfl, rfl⟩⟩
  by_cases c4 : k = 4
  · exact .inl ⟨32, 24, 8, .inr (.inl ⟨c4, rfl, rfl, rfl⟩)⟩
  by_cases c8 : k = 8
  · exact .inl ⟨64, 53, 11, .inr (.inr ⟨c8, rfl, rfl, rfl⟩)⟩
  · exact .inr ⟨by simp [c2], by simp [c4], by simp [c8]⟩

set_option maxHeartbeats 1000000 in
theorem makes_law (k mode s m e a n f : Int)
    (hc : ∀ w, Calls Tryd.prog 44 #[.int .i64 k, .int .i64 mode, .int .i64 s, .int .i64 m, .int .i64 e] w fun e' w' => e' = .returned (.tuple #[.int .i64 a, .int .i64 n, .int .i64 f]) ∧ Below w.heap.size w w')
    (hr : ∀ w, Calls Tryd.prog 45 #[.int .i64 k, .int .i64 mode, .int .i64 s, .int .i64 m, .int .i64 e] w fun e' w' => e' = .returned (.tuple #[.int .i64 a, .int .i64 n, .int .i64 f]) ∧ Below w.heap.size w w')
    (w : World) (hcn : CN w) :
    Calls Tryd.prog 10 #[.int .i64 k, .agg #[.int .i64 mode, .int .i64 s, .int .i64 m, .int .i64 e]] w fun e w' => e = .returned (.bool true) ∧ Below w.heap.size w w' := by
  have Hc := Lib.hid hc; clear hc
  have Hr := Lib.hid hr; clear hr
  have Hn := Lib.hid hcn; clear hcn
  have t1 : (a == a) = true := by simp
  have t2 : (n == n) = true := by simp
  have t3 : (f == f) = true := by simp
  go_enter Tryd.func10, Tryd.ntmps10
  go_wp2_with fail
  refine (Hc.out _).mono ?_
  rintro e' w1 ⟨rfl, hb⟩
  have hL := (Has.new w [.int .i64 mode, .int .i64 s, .int .i64 m, .int .i64 e] 40).keep hb
  have hB : Below w.heap.size w w1 := bt (by go_grown) hb
  obtain ⟨l0, l1, l2, l3⟩ := hL.c4
  go_wp2_with fail
  refine (Hr.out _).mono ?_
  rintro e w2 ⟨rfl, hb⟩
  have hB := bt hB hb
  go_wp2_with fail
  refine (Awake_c _ (Hn.out.keep hB)).mono ?_
  rintro e w5 ⟨rfl, hb⟩
  have hB := bt hB hb
  go_wp2
  go_ret
  exact ⟨rfl, hB⟩

theorem floatMakes_walk (k mode s m e : Int) (_hk : I64 k) (_ : I64 mode) (_ : I64 s) (hm64 : I64 m) (_ : I64 e) (w : World) (hcn : CN w) :
    Calls Tryd.prog 10 #[.int .i64 k, .agg #[.int .i64 mode, .int .i64 s, .int .i64 m, .int .i64 e]] w fun e w' => e = .returned (.bool true) ∧ Below w.heap.size w w' := by
  have bad : BadMk k mode s m e → Calls Tryd.prog 10 #[.int .i64 k, .agg #[.int .i64 mode, .int .i64 s, .int .i64 m, .int .i64 e]] w fun e w' => e = .returned (.bool true) ∧ Below w.heap.size w w' := fun h =>
    makes_law k mode s m e 0 0 2 (fun w' => Make_bad k mode s m e h w') (fun w' => rMake_bad k mode s m e h w') w hcn
  rcases kk_or3 k with ⟨W, D, E, hk⟩ | h
  · by_cases cm : Mode mode
    · by_cases cs : Sgn s
      · by_cases c1 : m < 0
        · exact bad (.inr ⟨W, D, E, hk, .inr ⟨cm, .inr ⟨cs, .inl c1⟩⟩⟩)
        · by_cases c2 : e < -2000
          · exact bad (.inr ⟨W, D, E, hk, .inr ⟨cm, .inr ⟨cs, .inr ⟨by omega, .inl c2⟩⟩⟩⟩)
          · by_cases c3 : 2000 < e
            · exact bad (.inr ⟨W, D, E, hk, .inr ⟨cm, .inr ⟨cs, .inr ⟨by omega, .inr ⟨by omega, c3⟩⟩⟩⟩⟩)
            · by_cases c0 : m = 0
              · subst c0
                exact makes_law k mode s 0 e _ _ _ (fun w' => Make_zero k W D E mode s e hk cm cs (by omega) (by omega) w') (fun w' => rMake_zero k W D E mode s e hk cm cs (by omega) (by omega) w') w hcn
              · have hm1 : m < 9223372036854775808 := hm64.2
                exact makes_law k mode s m e _ _ _ (fun w' => Make_c k W D E mode s m e hk cm cs (by omega) hm1 (by omega) (by omega) w') (fun w' => rMake_c k W D E mode s m e hk cm cs (by omega) hm1 (by omega) (by omega) w') w hcn
      · exact bad (.inr ⟨W, D, E, hk, .inr ⟨cm, .inl ⟨by simp; intro h; exact cs (.inl h), by simp; intro h; exact cs (.inr h)⟩⟩⟩)
    · exact bad (.inr ⟨W, D, E, hk, .inl cm⟩)
  · exact bad (.inl h)

set_option maxRecDepth 100000 in
theorem floatMakes_lifted (os : Os) (started : os.Started) (H : Type) (enc : TypeId × Value → H) :
    ReturnsInHanded {} Tryd.checked os 10 .any (fun w args => (Rows.floatMakesSpec.pre enc Tryd.prog Tryd.f10 [] false w args ∧ laidMetH Tryd.prog laidL w) ∧ sizedMet enc Tryd.prog Tryd.f10 (OpenSpec.ofChange Rows.floatMakesSpec) false w args)
      (Rows.floatMakesSpec.post enc Tryd.prog Tryd.f10 false true false false) := by
  refine returnsInHanded_of_change_and (C := Tryd.checked) (X := fun w _ => laidMetH Tryd.prog laidL w) (fun _ _ _ hh h => h.of_heap hh) own started (by kernel_rfl) Tryd.func10
    (ChangeSpec.witness_shaped (enc := enc) (C := Tryd.checked) (os := os) (X := fun w _ => laidMetH Tryd.prog laidL w) false (World.doorLaid Tryd.prog 400 os) #[.int .i64 0, .agg #[.int .i64 0, .int .i64 0, .int .i64 0, .int .i64 0]] 8 rfl (World.shaped_of_RefB (by kernel_rfl) (by kernel_rfl)) (by kernel_rfl) (by kernel_rfl) (by kernel_rfl) (door_met os _)) ?_
  intro W base args ds gs before hval0 hW _ _ hL _
  have hval : ∀ (j : Nat) t v, Tryd.f10.params[j]? = some t → args[j]? = some v → Value.okWide Tryd.prog W .any base t v := hval0
  have hW' := hW
  obtain ⟨p, q, hA0, hV, rfl, hfz, hnd⟩ := hW
  have hA : DataW.TrodAll enc Tryd.prog W 0 (fun _ => true) true Tryd.f10.params.toList args.toList ds p := hA0
  rw [Tryd.params10] at hA hval
  obtain ⟨v0, vs0, d0, ds0, p0, q0, hargs, rfl, rfl, h0, r0⟩ := trodAll_cons hA
  obtain ⟨v1, vs1, d1, ds1, p1, q1, rfl, rfl, rfl, h1, r1⟩ := trodAll_cons r0
  obtain ⟨rfl, rfl, rfl⟩ := trodAll_nil r1
  obtain rfl : args = #[v0, v1] := by cases args; simp_all
  obtain ⟨rfl, rfl⟩ := trodVars_none hV
  obtain ⟨a0, rfl, rfl, rfl, w0⟩ := open_int Tryd.underlying3 (hval 0 3 v0 rfl rfl) h0
  obtain ⟨c1_0, c1_1, c1_2, c1_3, y1_0, y1_1, y1_2, y1_3, m1, rfl, rfl, rfl, g1_0, g1_1, g1_2, g1_3⟩ := Go.Joins.open_agg4 Tryd.underlying40 (by kernel_rfl) (show Tryd.prog.cellsOf 40 = 4 by kernel_rfl) (hval 1 40 v1 rfl rfl) h1
  obtain ⟨b1_0, e1_0, rfl, x1_0⟩ := DataW.trod_int Tryd.underlying3 g1_0
  simp only [List.cons.injEq, and_true] at e1_0
  subst e1_0
  obtain ⟨b1_1, e1_1, rfl, x1_1⟩ := DataW.trod_int Tryd.underlying3 g1_1
  simp only [List.cons.injEq, and_true] at e1_1
  subst e1_1
  obtain ⟨b1_2, e1_2, rfl, x1_2⟩ := DataW.trod_int Tryd.underlying3 g1_2
  simp only [List.cons.injEq, and_true] at e1_2
  subst e1_2
  obtain ⟨b1_3, e1_3, rfl, x1_3⟩ := DataW.trod_int Tryd.underlying3 g1_3
  simp only [List.cons.injEq, and_true] at e1_3
  subst e1_3
  have hcn := of_laid hL
  clear hA0 hval0
  simp only [List.append_nil] at hW'
  refine (floatMakes_walk a0 b1_0 b1_1 b1_2 b1_3 (by have := bounds_i64 w0; unfold I64; omega) (by have := bounds_i64 x1_0; unfold I64; omega) (by have := bounds_i64 x1_1; unfold I64; omega) (by have := bounds_i64 x1_2; unfold I64; omega) (by have := bounds_i64 x1_3; unfold I64; omega) W hcn).mono fun e W' ⟨he, hb⟩ => ?_
  subst he
  exact ⟨_, rfl, post_plain hW' (fun _ _ _ => (trodAll_cons_mk (shut_bool Tryd.underlying4 _) trodAll_mk0)) (fun _ => (trodAll_cons_mk (shut_int Tryd.underlying3 w0) (trodAll_cons_mk (Go.Joins.shut_agg4 (y0 := (.lit (.int .i64 b1_0), [])) (y1 := (.lit (.int .i64 b1_1), [])) (y2 := (.lit (.int .i64 b1_2), [])) (y3 := (.lit (.int .i64 b1_3), [])) Tryd.underlying40 (by kernel_rfl) (show Tryd.prog.cellsOf 40 = 4 by kernel_rfl) ⟨1, by simp [DataW.trod, Tryd.underlying3, x1_0]⟩ ⟨1, by simp [DataW.trod, Tryd.underlying3, x1_1]⟩ ⟨1, by simp [DataW.trod, Tryd.underlying3, x1_2]⟩ ⟨1, by simp [DataW.trod, Tryd.underlying3, x1_3]⟩) trodAll_mk0))) (fun _ => rfl) hb (ok_one (by kernel_rfl) rfl (okWide_bool_mk Tryd.underlying4 _))⟩

theorem floatMakes_holds : Rows.FloatMakesSaid :=
  OpenClaim.holds_of_wide 10 Tryd.f10 rfl rfl rfl rfl rfl rfl rfl ⟨rfl, rfl, rfl, rfl, rfl⟩ rfl rfl rfl rfl rfl (by kernel_rfl) Tryd.func10 (by kernel_rfl)
    (of_decide_eq_true (by kernel_rfl)) (by unfold Func.isWrapper; first | (rw [if_pos (by decide +kernel)]; kernel_rfl) | (rw [if_neg (by decide +kernel)]; exact ⟨rfl, rfl⟩))
    (fun os started H enc _ => floatMakes_lifted os started H enc)

theorem floatMakes_card : Rows.FloatMakesCardSaid :=
  Claim7.holds_tied_plain_at .later [] [.data] true Rows.floatMakesCard.stood.harness false
    floatMakes_holds (fun _ h => by cases h) (by kernel_rfl) (fun _ h => by cases h) floatMakes_row_tie rfl ⟨rfl, rfl⟩ (by kernel_rfl) rfl
    (fun f fn hf hfn => by
      obtain rfl : f = 10 := Option.some.inj ((show Tryd.prog.funcNamed "quadrat/quadratlaw01.FloatMakes" = some 10 by kernel_rfl).symm.trans hf) |>.symm
      obtain rfl : fn = Tryd.f10 := (Option.some.inj (Tryd.func10.symm.trans hfn)).symm
      exact ⟨by kernel_rfl, fun j t ht => by
        rw [Tryd.params10] at ht
        have hm : t ∈ [3, 40] := by simpa using Array.mem_of_getElem? ht
        have hall : ([3, 40].all fun u => !Tryd.prog.wantsStandIn u) = true := by kernel_rfl
        exact (show Tryd.prog.wantsStandIn t = false by simpa using List.all_eq_true.1 hall t hm)⟩)
    (by kernel_rfl)
#print axioms floatMakes_card
end Go.Proofs.YtfdenbgmogojeaaDoor

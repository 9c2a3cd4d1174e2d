/-
  PROVED: the law FloatModes (sums and products do not ask which operand is first, what is rounded down is at most what is rounded up, and both are the same only where nothing was rounded) returns true for every three ints and leaves them as they were. Conditions: the table of class names holds what the program's text lays (tied by the card).
-/
import Derived.Test.YtfdenbgmogojeaaDoorLawB
import Derived.Test.YtfdenbgmogojeaaDoorFloMo
import Derived.Test.YtfdenbgmogojeaaDoorCards
import Derived.Test.YtfdenbgmogojeaaDoorTie
import Derived.SevenTiedAt
import Derived.Lib.SmallJoins
namespace Go.Proofs.YtfdenbgmogojeaaDoor
open Go.RowKit

set_option maxRecDepth 100000 in
set_option maxHeartbeats 2000000 in
theorem between_c (k W D E a b : Int) (hk : KK k W D E) (ha : okB W a = true) (hb : okB W b = true) (w : World) :
    Calls Tryd.prog 48 #[.int .i64 k, .int .i64 a, .int .i64 b] w fun e w' => e = .returned (.bool true) ∧ Below w.heap.size w w' := by
  have hA := add_ud W D E a b hk.kl
  have hD := div_ud W D E a b hk.kl
  have A2 := Lib.hid (fun w' => Add_c k W D E 2 a b hk (.inr (.inr (.inl rfl))) ha hb w')
  have A3 := Lib.hid (fun w' => Add_c k W D E 3 a b hk (.inr (.inr (.inr rfl))) ha hb w')
  have D2 := Lib.hid (fun w' => Div_c k W D E 2 a b hk (.inr (.inr (.inl rfl))) ha hb w')
  have D3 := Lib.hid (fun w' => Div_c k W D E 3 a b hk (.inr (.inr (.inr rfl))) ha hb w')
  generalize addF W D 2 a b = p at *
  generalize addF W D 3 a b = q at *
  generalize divF W D 2 a b = r at *
  generalize divF W D 3 a b = s at *
  obtain ⟨p1, p2⟩ := p
  obtain ⟨q1, q2⟩ := q
  obtain ⟨r1, r2⟩ := r
  obtain ⟨s1, s2⟩ := s
  obtain ⟨o1, o2, c1, f1⟩ := hA
  obtain ⟨o3, o4, c2, f2⟩ := hD
  have C1 := Lib.hid (fun w' => Compare_c k W D E p1 q1 hk o1 o2 w')
  have C2 := Lib.hid (fun w' => Compare_c k W D E r1 s1 hk o3 o4 w')
  simp only at c1 c2 f1 f2
  generalize cmpF W D p1 q1 = x at *
  generalize cmpF W D r1 s1 = y at *
  have n1 : (x != 1) = true := by simp [c1]
  have n2 : (y != 1) = true := by simp [c2]
  have g1 : (p1 != q1) = true ∨ ((p1 != q1) = false ∧ (bits .and .i64 (bits .or .i64 p2 q2) 16 == 0) = true) := by
    by_cases h : p1 = q1
    · rcases f1 with f | f
      · exact absurd h f
      · exact .inr ⟨by simp [h], f⟩
    · exact .inl (by simp [h])
  have g2 : (r1 != s1) = true ∨ ((r1 != s1) = false ∧ (bits .and .i64 (bits .or .i64 r2 s2) 16 == 0) = true) := by
    by_cases h : r1 = s1
    · rcases f2 with f | f
      · exact absurd h f
      · exact .inr ⟨by simp [h], f⟩
    · exact .inl (by simp [h])
  clear c1 c2 f1 f2 o1 o2 o3 o4 ha hb hk
  rcases g1 with g1 | ⟨g1, k1⟩ <;> rcases g2 with g2 | ⟨g2, k2⟩
  all_goals
    go_enter Tryd.func48, Tryd.ntmps48
    go_wp2_with fail
    refine (A2.out _).mono ?_
    rintro e w1 ⟨rfl, hB⟩
    go_wp2_with fail
    refine (A3.out _).mono ?_
    rintro e w2 ⟨rfl, hb⟩
    have hB := bt hB hb
    go_wp2_with fail
    refine (D2.out _).mono ?_
    rintro e w3 ⟨rfl, hb⟩
    have hB := bt hB hb
    go_wp2_with fail
    refine (D3.out _).mono ?_
    rintro e w4 ⟨rfl, hb⟩
    have hB := bt hB hb
    go_wp2_with fail
    refine (C1.out _).mono ?_
    rintro e w5 ⟨rfl, hb⟩
    have hB := bt hB hb
    go_wp2_with fail
    refine (C2.out _).mono ?_
    rintro e w6 ⟨rfl, hb⟩
    have hB := bt hB hb
    go_wp2_with fail
    go_ret
    exact ⟨rfl, hB⟩

set_option maxRecDepth 100000 in
set_option maxHeartbeats 2000000 in
theorem modes_yes (k W D E a b : Int) (hk : KK k W D E) (ha : okB W a = true) (hb : okB W b = true) (w : World) (hcn : CN w) :
    Calls Tryd.prog 13 #[.int .i64 k, .int .i64 a, .int .i64 b] w fun e w' => e = .returned (.bool true) ∧ Below w.heap.size w w' := by
  have Va := Lib.hid (fun w' => Valid_c k W D E a hk w')
  have Vb := Lib.hid (fun w' => Valid_c k W D E b hk w')
  rw [ha] at Va
  rw [hb] at Vb
  have AX : ∀ m : Int, ∃ r : Int × Int, Mode m → (∀ w', Calls Tryd.prog 15 #[.int .i64 k, .int .i64 m, .int .i64 a, .int .i64 b] w' fun e w'' => e = .returned (.tuple #[.int .i64 r.1, .int .i64 r.2, .int .i64 0]) ∧ Below w'.heap.size w' w'') ∧ (∀ w', Calls Tryd.prog 15 #[.int .i64 k, .int .i64 m, .int .i64 b, .int .i64 a] w' fun e w'' => e = .returned (.tuple #[.int .i64 r.1, .int .i64 r.2, .int .i64 0]) ∧ Below w'.heap.size w' w'') :=
    fun m => ⟨addF W D m a b, fun hm => ⟨fun w' => Add_c k W D E m a b hk hm ha hb w', fun w' => by rw [add_swap W D E m a b hk.kl]; exact Add_c k W D E m b a hk hm hb ha w'⟩⟩
  have MX : ∀ m : Int, ∃ r : Int × Int, Mode m → (∀ w', Calls Tryd.prog 20 #[.int .i64 k, .int .i64 m, .int .i64 a, .int .i64 b] w' fun e w'' => e = .returned (.tuple #[.int .i64 r.1, .int .i64 r.2, .int .i64 0]) ∧ Below w'.heap.size w' w'') ∧ (∀ w', Calls Tryd.prog 20 #[.int .i64 k, .int .i64 m, .int .i64 b, .int .i64 a] w' fun e w'' => e = .returned (.tuple #[.int .i64 r.1, .int .i64 r.2, .int .i64 0]) ∧ Below w'.heap.size w' w'') :=
    fun m => ⟨mulF W D m a b, fun hm => ⟨fun w' => Mul_c k W D E m a b hk hm ha hb w', fun w' => by rw [mul_swap W D m a b]; exact Mul_c k W D E m b a hk hm hb ha w'⟩⟩
  have HA := Lib.hid AX; clear AX
  have HM := Lib.hid MX; clear MX
  have HB := Lib.hid (fun w' => between_c k W D E a b hk ha hb w')
  have Hn := Lib.hid hcn; clear hcn
  obtain ⟨Bs, hBs⟩ : ∃ Bs, Bs = w.heap.size := ⟨_, rfl⟩
  clear hk ha hb
  go_enter Tryd.func13, Tryd.ntmps13
  go_wp2_with fail
  refine (Va.out _).mono ?_
  rintro e w1 ⟨rfl, hB⟩
  go_wp2_with fail
  refine (Vb.out _).mono ?_
  rintro e w2 ⟨rfl, hb⟩
  have hB := bt hB hb
  clear hb
  go_wp2_with fail
  go_loopw [7] (fun m wr => ∃ j : Nat, j ≤ 4 ∧ m = .int .i64 (j : Int) ∧ Below w.heap.size w wr) (fun m _ => 4 - (intOf m).toNat)
  case atStart => exact ⟨0, by omega, rfl, hB⟩
  case round =>
    obtain ⟨j, hj, rfl, hbe⟩ := hrel
    by_cases hlt : j < 4
    · have hm : Mode (j : Int) := by unfold Mode; omega
      obtain ⟨⟨x, n⟩, hx⟩ := HA.out (j : Int)
      obtain ⟨⟨v, l⟩, hv⟩ := HM.out (j : Int)
      obtain ⟨a1, a2⟩ := hx hm
      obtain ⟨m1, m2⟩ := hv hm
      have A1 := Lib.hid a1; clear a1
      have A2 := Lib.hid a2; clear a2
      have M1 := Lib.hid m1; clear m1
      have M2 := Lib.hid m2; clear m2
      clear hx hv
      have Hm := Lib.hid hm; clear hm
      have t1 : (x != x) = false := by simp
      have t2 : (n != n) = false := by simp
      have t3 : (v != v) = false := by simp
      have t4 : (l != l) = false := by simp
      go_wp2_with fail
      refine (A1.out _).mono ?_
      rintro e w1 ⟨rfl, hb⟩
      have hbe := bt hbe hb
      go_wp2_with fail
      refine (A2.out _).mono ?_
      rintro e w2 ⟨rfl, hb⟩
      have hbe := bt hbe hb
      go_wp2_with fail
      refine (M1.out _).mono ?_
      rintro e w3 ⟨rfl, hb⟩
      have hbe := bt hbe hb
      go_wp2_with fail
      refine (M2.out _).mono ?_
      rintro e w4 ⟨rfl, hb⟩
      have hbe := bt hbe hb
      go_wp2_with fail
      go_roundw
      case rel => exact ⟨j + 1, by omega, by go_num, hbe⟩
      case measure => simp [intOf]; omega
    · go_wp2_with fail
      refine (HB.out _).mono ?_
      rintro e w1 ⟨rfl, hb⟩
      have hbe := bt hbe hb
      go_wp2_with fail
      refine (Awake_c _ (Hn.out.keep hbe)).mono ?_
      rintro e w2 ⟨rfl, hb⟩
      have hbe := bt hbe hb
      go_wp2_with fail
      go_ret
      exact ⟨rfl, hbe⟩

set_option maxHeartbeats 1000000 in
theorem modes_no (k a b : Int) (va vb : Bool) (hv : (va && vb) = false) (ha : ∀ w, Calls Tryd.prog 28 #[.int .i64 k, .int .i64 a] w fun e w' => e = .returned (.bool va) ∧ Below w.heap.size w w') (hb : ∀ w, Calls Tryd.prog 28 #[.int .i64 k, .int .i64 b] w fun e w' => e = .returned (.bool vb) ∧ Below w.heap.size w w') (w : World) (hcn : CN w) :
    Calls Tryd.prog 13 #[.int .i64 k, .int .i64 a, .int .i64 b] w fun e w' => e = .returned (.bool true) ∧ Below w.heap.size w w' := by
  have Va := Lib.hid ha; clear ha
  have Vb := Lib.hid hb; clear hb
  have Hn := Lib.hid hcn; clear hcn
  cases va
  · go_enter Tryd.func13, Tryd.ntmps13
    go_wp2_with fail
    refine (Va.out _).mono ?_
    rintro e w1 ⟨rfl, hB⟩
    go_wp2_with fail
    refine (Awake_c _ (Hn.out.keep hB)).mono ?_
    rintro e w2 ⟨rfl, hb⟩
    have hB := bt hB hb
    go_wp2_with fail
    go_ret
    exact ⟨rfl, hB⟩
  · rw [Bool.true_and] at hv
    subst hv
    go_enter Tryd.func13, Tryd.ntmps13
    go_wp2_with fail
    refine (Va.out _).mono ?_
    rintro e w1 ⟨rfl, hB⟩
    go_wp2_with fail
    refine (Vb.out _).mono ?_
    rintro e w2 ⟨rfl, hb⟩
    have hB := bt hB hb
    go_wp2_with fail
    refine (Awake_c _ (Hn.out.keep hB)).mono ?_
    rintro e w3 ⟨rfl, hb⟩
    have hB := bt hB hb
    go_wp2_with fail
    go_ret
    exact ⟨rfl, hB⟩
end Go.Proofs.YtfdenbgmogojeaaDoor
namespace Go.Proofs.YtfdenbgmogojeaaDoor
open Go Go.ChangeShapes Go.WideShapes Go.ChangeAt Go.WideMaps Go.WideElems Go.RowKit

theorem floatModes_walk (k a b : Int) (_ : I64 k) (_ : I64 a) (_ : I64 b) (w : World) (hcn : CN w) :
    Calls Tryd.prog 13 #[.int .i64 k, .int .i64 a, .int .i64 b] w fun e w' => e = .returned (.bool true) ∧ Below w.heap.size w w' := by
  have hk : NoK k ∨ (∃ W D E, KK k W D E) := by
    by_cases c2 : k = 2
    · exact .inr ⟨16, 11, 5, .inl ⟨c2, rfl, rfl, rfl⟩⟩
    by_cases c4 : k = 4
    · exact .inr ⟨32, 24, 8, .inr (.inl ⟨c4, rfl, rfl, rfl⟩)⟩
    by_cases c8 : k = 8
    · exact .inr ⟨64, 53, 11, .inr (.inr ⟨c8, rfl, rfl, rfl⟩)⟩
    · exact .inl ⟨by simp [c2], by simp [c4], by simp [c8]⟩
  rcases hk with ⟨h2, h4, h8⟩ | ⟨W, D, E, hk⟩
  · exact modes_no k a b false false rfl (fun w' => Valid_no k a h2 h4 h8 w') (fun w' => Valid_no k b h2 h4 h8 w') w hcn
  · cases hv : (okB W a && okB W b)
    · exact modes_no k a b _ _ hv (fun w' => Valid_c k W D E a hk w') (fun w' => Valid_c k W D E b hk w') w hcn
    · rw [Bool.and_eq_true] at hv
      exact modes_yes k W D E a b hk hv.1 hv.2 w hcn

set_option maxRecDepth 100000 in
theorem floatModes_lifted (os : Os) (started : os.Started) (H : Type) (enc : TypeId × Value → H) :
    ReturnsInHanded {} Tryd.checked os 13 .any (fun w args => (Rows.floatModesSpec.pre enc Tryd.prog Tryd.f13 [] false w args ∧ laidMetH Tryd.prog laidL w) ∧ sizedMet enc Tryd.prog Tryd.f13 (OpenSpec.ofChange Rows.floatModesSpec) false w args)
      (Rows.floatModesSpec.post enc Tryd.prog Tryd.f13 false true false false) := by
  refine returnsInHanded_of_change_and (C := Tryd.checked) (X := fun w _ => laidMetH Tryd.prog laidL w) (fun _ _ _ hh h => h.of_heap hh) own started (by kernel_rfl) Tryd.func13
    (ChangeSpec.witness_shaped (enc := enc) (C := Tryd.checked) (os := os) (X := fun w _ => laidMetH Tryd.prog laidL w) false (World.doorLaid Tryd.prog 400 os) #[.int .i64 0, .int .i64 0, .int .i64 0] 8 rfl (World.shaped_of_RefB (by kernel_rfl) (by kernel_rfl)) (by kernel_rfl) (by kernel_rfl) (by kernel_rfl) (door_met os _)) ?_
  intro W base args ds gs before hval0 hW _ _ hL _
  have hval : ∀ (j : Nat) t v, Tryd.f13.params[j]? = some t → args[j]? = some v → Value.okWide Tryd.prog W .any base t v := hval0
  have hW' := hW
  obtain ⟨p, q, hA0, hV, rfl, hfz, hnd⟩ := hW
  have hA : DataW.TrodAll enc Tryd.prog W 0 (fun _ => true) true Tryd.f13.params.toList args.toList ds p := hA0
  rw [Tryd.params13] at hA hval
  obtain ⟨v0, vs0, d0, ds0, p0, q0, hargs, rfl, rfl, h0, r0⟩ := trodAll_cons hA
  obtain ⟨v1, vs1, d1, ds1, p1, q1, rfl, rfl, rfl, h1, r1⟩ := trodAll_cons r0
  obtain ⟨v2, vs2, d2, ds2, p2, q2, rfl, rfl, rfl, h2, r2⟩ := trodAll_cons r1
  obtain ⟨rfl, rfl, rfl⟩ := trodAll_nil r2
  obtain rfl : args = #[v0, v1, v2] := by cases args; simp_all
  obtain ⟨rfl, rfl⟩ := trodVars_none hV
  obtain ⟨a0, rfl, rfl, rfl, w0⟩ := open_int Tryd.underlying3 (hval 0 3 v0 rfl rfl) h0
  obtain ⟨a1, rfl, rfl, rfl, w1⟩ := open_int Tryd.underlying3 (hval 1 3 v1 rfl rfl) h1
  obtain ⟨a2, rfl, rfl, rfl, w2⟩ := open_int Tryd.underlying3 (hval 2 3 v2 rfl rfl) h2
  have hcn := of_laid hL
  clear hA0 hval0
  simp only [List.append_nil] at hW'
  refine (floatModes_walk a0 a1 a2 (by have := bounds_i64 w0; unfold I64; omega) (by have := bounds_i64 w1; unfold I64; omega) (by have := bounds_i64 w2; unfold I64; omega) W hcn).mono fun e W' ⟨he, hb⟩ => ?_
  subst he
  exact ⟨_, rfl, post_plain hW' (fun _ _ _ => (trodAll_cons_mk (shut_bool Tryd.underlying4 _) trodAll_mk0)) (fun _ => (trodAll_cons_mk (shut_int Tryd.underlying3 w0) (trodAll_cons_mk (shut_int Tryd.underlying3 w1) (trodAll_cons_mk (shut_int Tryd.underlying3 w2) trodAll_mk0)))) (fun _ => rfl) hb (ok_one (by kernel_rfl) rfl (okWide_bool_mk Tryd.underlying4 _))⟩

theorem floatModes_holds : Rows.FloatModesSaid :=
  OpenClaim.holds_of_wide 13 Tryd.f13 rfl rfl rfl rfl rfl rfl rfl ⟨rfl, rfl, rfl, rfl, rfl⟩ rfl rfl rfl rfl rfl (by kernel_rfl) Tryd.func13 (by kernel_rfl)
    (of_decide_eq_true (by kernel_rfl)) (by unfold Func.isWrapper; first | (rw [if_pos (by decide +kernel)]; kernel_rfl) | (rw [if_neg (by decide +kernel)]; exact ⟨rfl, rfl⟩))
    (fun os started H enc _ => floatModes_lifted os started H enc)

theorem floatModes_card : Rows.FloatModesCardSaid :=
  Claim7.holds_tied_plain_at .later [] [.data] true Rows.floatModesCard.stood.harness false
    floatModes_holds (fun _ h => by cases h) (by kernel_rfl) (fun _ h => by cases h) floatModes_row_tie rfl ⟨rfl, rfl⟩ (by kernel_rfl) rfl
    (fun f fn hf hfn => by
      obtain rfl : f = 13 := Option.some.inj ((show Tryd.prog.funcNamed "quadrat/quadratlaw01.FloatModes" = some 13 by kernel_rfl).symm.trans hf) |>.symm
      obtain rfl : fn = Tryd.f13 := (Option.some.inj (Tryd.func13.symm.trans hfn)).symm
      exact ⟨by kernel_rfl, fun j t ht => by
        rw [Tryd.params13] at ht
        have hm : t ∈ [3, 3, 3] := by simpa using Array.mem_of_getElem? ht
        have hall : ([3, 3, 3].all fun u => !Tryd.prog.wantsStandIn u) = true := by kernel_rfl
        exact (show Tryd.prog.wantsStandIn t = false by simpa using List.all_eq_true.1 hall t hm)⟩)
    (by kernel_rfl)
#print axioms floatModes_card
end Go.Proofs.YtfdenbgmogojeaaDoor

/-
  PROVED: the law FloatParts (a float's parts, its opposite, its size and its class are those of the document's answer) returns true for every two ints and leaves them as they were. Conditions: the tables of class names and of math/bits' places hold what the programs' texts lay (tied by the card).
-/
import Derived.Test.YtfdenbgmogojeaaDoorLawC
import Derived.Test.YtfdenbgmogojeaaDoorRefK
import Derived.Test.YtfdenbgmogojeaaDoorCards
import Derived.Test.YtfdenbgmogojeaaDoorTie
import Derived.SevenTiedAt
namespace Go.Proofs.YtfdenbgmogojeaaDoor
open Go Go.ChangeShapes Go.WideShapes Go.ChangeAt Go.WideMaps Go.WideElems Go.RowKit

theorem kk_or3 (k : Int) : (∃ W D E, KK k W D E) ∨ ((k == 2) = false ∧ (k == 4) = false ∧ (k == 8) = false) := by
  by_cases c2 : k = 2
  · exact .inl ⟨16, 11, 5, .inl ⟨c2, rfl, rfl, rfl⟩⟩
  by_cases c4 : k = 4
  · exact .inl ⟨32, 24, 8, .inr (.inl ⟨c4, rfl, rfl, rfl⟩)⟩
  by_cases c8 : k = 8
  · exact .inl ⟨64, 53, 11, .inr (.inr ⟨c8, rfl, rfl, rfl⟩)⟩
  · exact .inr ⟨by simp [c2], by simp [c4], by simp [c8]⟩

theorem odd_part (M : Nat) : 0 < M → ∃ t m, m % 2 = 1 ∧ M = 2 ^ t * m := by
  induction M using Nat.strongRecOn with
  | ind M ih =>
    intro h
    by_cases c : M % 2 = 1
    · exact ⟨0, M, c, by simp⟩
    · obtain ⟨t, m, hm, e⟩ := ih (M / 2) (by omega) (by omega)
      exact ⟨t + 1, m, hm, by rw [Nat.pow_succ, Nat.mul_comm (2 ^ t), Nat.mul_assoc, ← e]; omega⟩

set_option maxHeartbeats 2000000 in
theorem parts_law (k a s m x e b g d i : Int) (nm : ByteArray) (w : World) (hcn : CN w)
    (h1 : Calls Tryd.prog 36 #[.int .i64 k, .int .i64 a] w fun e' w' => e' = .returned (.tuple #[.int .i64 s, .int .i64 m, .int .i64 x, .int .i64 e]) ∧ Below w.heap.size w w')
    (h2 : ∀ w, Calls Tryd.prog 37 #[.int .i64 k, .int .i64 a] w fun e' w' => e' = .returned (.tuple #[.int .i64 s, .int .i64 m, .int .i64 x, .int .i64 e]) ∧ Below w.heap.size w w')
    (h3 : ∀ w, Calls Tryd.prog 38 #[.int .i64 k, .int .i64 a] w fun e' w' => e' = .returned (.tuple #[.int .i64 b, .int .i64 g]) ∧ Below w.heap.size w w')
    (h4 : ∀ w, Calls Tryd.prog 39 #[.int .i64 k, .int .i64 a] w fun e' w' => e' = .returned (.tuple #[.int .i64 b, .int .i64 g]) ∧ Below w.heap.size w w')
    (h5 : ∀ w, Calls Tryd.prog 40 #[.int .i64 k, .int .i64 a] w fun e' w' => e' = .returned (.tuple #[.int .i64 d, .int .i64 i]) ∧ Below w.heap.size w w')
    (h6 : ∀ w, Calls Tryd.prog 41 #[.int .i64 k, .int .i64 a] w fun e' w' => e' = .returned (.tuple #[.int .i64 d, .int .i64 i]) ∧ Below w.heap.size w w')
    (h7 : ∀ w, CN w → Calls Tryd.prog 42 #[.int .i64 k, .int .i64 a] w fun e' w' => e' = .returned (.string nm) ∧ Below w.heap.size w w')
    (h8 : ∀ w, Calls Tryd.prog 43 #[.int .i64 k, .int .i64 a] w fun e' w' => e' = .returned (.string nm) ∧ Below w.heap.size w w') :
    Calls Tryd.prog 9 #[.int .i64 k, .int .i64 a] w fun e w' => e = .returned (.bool true) ∧ Below w.heap.size w w' := by
  have H1 := Lib.hid h1; clear h1
  have H2 := Lib.hid h2; clear h2
  have H3 := Lib.hid h3; clear h3
  have H4 := Lib.hid h4; clear h4
  have H5 := Lib.hid h5; clear h5
  have H6 := Lib.hid h6; clear h6
  have H7 := Lib.hid h7; clear h7
  have H8 := Lib.hid h8; clear h8
  have Hn := Lib.hid hcn; clear hcn
  have t1 : (s == s) = true := by simp
  have t2 : (m == m) = true := by simp
  have t3 : (x == x) = true := by simp
  have t4 : (e == e) = true := by simp
  have t5 : (b == b) = true := by simp
  have t6 : (g == g) = true := by simp
  have t7 : (d == d) = true := by simp
  have t8 : (i == i) = true := by simp
  go_enter Tryd.func9, Tryd.ntmps9
  go_wp2_with fail
  refine H1.out.mono ?_
  rintro e w1 ⟨rfl, hB⟩
  go_wp2_with fail
  refine (H2.out _).mono ?_
  rintro e w2 ⟨rfl, hb⟩
  have hB := bt hB hb
  go_wp2_with fail
  refine (H3.out _).mono ?_
  rintro e w3 ⟨rfl, hb⟩
  have hB := bt hB hb
  go_wp2_with fail
  refine (H4.out _).mono ?_
  rintro e w4 ⟨rfl, hb⟩
  have hB := bt hB hb
  go_wp2_with fail
  refine (H5.out _).mono ?_
  rintro e w5 ⟨rfl, hb⟩
  have hB := bt hB hb
  go_wp2_with fail
  refine (H6.out _).mono ?_
  rintro e w6 ⟨rfl, hb⟩
  have hB := bt hB hb
  go_wp2_with fail
  refine (H7.out _ (Hn.out.keep hB)).mono ?_
  rintro e w7 ⟨rfl, hb⟩
  have hB := bt hB hb
  go_wp2_with fail
  refine (H8.out _).mono ?_
  rintro e w8 ⟨rfl, hb⟩
  have hB := bt hB hb
  go_wp2_with fail
  refine (Awake_c _ (Hn.out.keep hB)).mono ?_
  rintro e w9 ⟨rfl, hb⟩
  have hB := bt hB hb
  go_wp2
  go_ret
  exact ⟨rfl, hB⟩

theorem floatParts_walk (k a : Int) (_hk : I64 k) (_hi : I64 a) (w : World) (hcn : CN w ∧ DB w) :
    Calls Tryd.prog 9 #[.int .i64 k, .int .i64 a] w fun e w' => e = .returned (.bool true) ∧ Below w.heap.size w w' := by
  rcases kk_or3 k with ⟨W, D, E, hk⟩ | ⟨h2, h4, h8⟩
  · cases hv : okB W a
    · exact parts_law k a 0 0 0 2 0 2 0 2 ⟨#[]⟩ w hcn.1 (Parts_out k W D E a hk hv w) (fun w' => rParts_out k W D E a hk hv w') (fun w' => Neg_out k W D E a hk hv w') (fun w' => rNeg_out k W D E a hk hv w') (fun w' => Abs_out k W D E a hk hv w') (fun w' => rAbs_out k W D E a hk hv w') (fun w' _ => Class_out k W D E a hk hv w') (fun w' => rClass_out k W D E a hk hv w')
    · have hcl := cls_nn D (siz W a)
      have far : ∀ (i : Nat) (n : ByteArray) (s m x e : Int), cls D (siz W a) = (i : Int) → namesL[i]? = some n → i < 5 →
          (∀ w', Calls Tryd.prog 43 #[.int .i64 k, .int .i64 a] w' fun e w'' => e = .returned (.string n) ∧ Below w'.heap.size w' w'') →
          (Calls Tryd.prog 36 #[.int .i64 k, .int .i64 a] w fun e' w' => e' = .returned (.tuple #[.int .i64 s, .int .i64 m, .int .i64 x, .int .i64 e]) ∧ Below w.heap.size w w') →
          (∀ w, Calls Tryd.prog 37 #[.int .i64 k, .int .i64 a] w fun e' w' => e' = .returned (.tuple #[.int .i64 s, .int .i64 m, .int .i64 x, .int .i64 e]) ∧ Below w.heap.size w w') →
          Calls Tryd.prog 9 #[.int .i64 k, .int .i64 a] w fun e w' => e = .returned (.bool true) ∧ Below w.heap.size w w' := fun i n s m x e hc hn hi hr h1 h2 =>
        parts_law k a s m x e (negF W D a) 0 (absF W D a) 0 n w hcn.1 h1 h2 (fun w' => Neg_c k W D E a hk hv w') (fun w' => rNeg_c k W D E a hk hv w') (fun w' => Abs_c k W D E a hk hv w') (fun w' => rAbs_c k W D E a hk hv w') (fun w' hw => Class_c k W D E a i n hk hv hi hc w' (hw i n hn)) hr
      have fin : ∀ (i : Nat) (n : ByteArray), i = 1 ∨ i = 2 → cls D (siz W a) = (i : Int) → namesL[i]? = some n → i < 5 →
          Calls Tryd.prog 9 #[.int .i64 k, .int .i64 a] w fun e w' => e = .returned (.bool true) ∧ Below w.heap.size w w' := fun i n hi hc hn hi5 => by
        have hc12 : cls D (siz W a) = 1 ∨ cls D (siz W a) = 2 := by omega
        obtain ⟨z0, z1⟩ := siz_b W D E a hk.kl
        obtain ⟨m0, m1, m2⟩ := mant_b W D E _ hk.kl z0 z1
        obtain ⟨g1, g2, _⟩ := hid_b W D E hk.kl
        have hpos : 0 < mant D (siz W a) := by
          rcases hc12 with c | c
          · have h1 : 1 ≤ siz W a := cls_pos (D := D) z0 (by rw [c]; decide)
            unfold mant; rw [if_pos (by omega)]; omega
          · have := m2 c; omega
        obtain ⟨t, m, hm, hM⟩ := odd_part (mant D (siz W a)).toNat (by omega)
        have hMi : mant D (siz W a) = ((2 ^ t * m : Nat) : Int) := by rw [← hM]; exact (Int.toNat_of_nonneg m0).symm
        have ht : t < 64 := by
          have h1 : 2 ^ t ≤ (mant D (siz W a)).toNat := by rw [hM]; exact Nat.le_mul_of_pos_right _ (by omega)
          have h2 : 2 ^ t < 2 ^ 64 := by omega
          exact (Nat.pow_lt_pow_iff_right (by decide : 1 < 2)).1 h2
        exact far i n (sgn W a) m (expo D (siz W a) + t) 0 hc hn hi5 (fun w' => rClass_fin k W D E a hk hv i n hi hc hn w') (Parts_fin k W D E a t m hk hv hc12 ht hm hMi w hcn.2) (fun w' => rParts_fin k W D E a t m hk hv hc12 ht hm hMi w')
      have hcc : cls D (siz W a) = ((0 : Nat) : Int) ∨ cls D (siz W a) = ((1 : Nat) : Int) ∨ cls D (siz W a) = ((2 : Nat) : Int) ∨ cls D (siz W a) = ((3 : Nat) : Int) ∨ cls D (siz W a) = ((4 : Nat) : Int) := by omega
      rcases hcc with c | c | c | c | c
      · exact far 0 _ (sgn W a) 0 0 0 c rfl (by decide) (fun w' => rClass_far k W D E a hk hv 0 _ (.inl rfl) c rfl w') (Parts_zero k W D E a hk hv c w) (fun w' => rParts_zero k W D E a hk hv c w')
      · exact fin 1 _ (.inl rfl) c rfl (by decide)
      · exact fin 2 _ (.inr rfl) c rfl (by decide)
      · exact far 3 _ 0 0 0 10 c rfl (by decide) (fun w' => rClass_far k W D E a hk hv 3 _ (.inr (.inl rfl)) c rfl w') (Parts_far k W D E a hk hv (.inl c) w) (fun w' => rParts_far k W D E a hk hv (.inl c) w')
      · exact far 4 _ 0 0 0 10 c rfl (by decide) (fun w' => rClass_far k W D E a hk hv 4 _ (.inr (.inr rfl)) c rfl w') (Parts_far k W D E a hk hv (.inr c) w) (fun w' => rParts_far k W D E a hk hv (.inr c) w')
  · exact parts_law k a 0 0 0 2 0 2 0 2 ⟨#[]⟩ w hcn.1 (Parts_no k a h2 h4 h8 w) (fun w' => rParts_no k a h2 h4 h8 w') (fun w' => Neg_no k a h2 h4 h8 w') (fun w' => rNeg_no k a h2 h4 h8 w') (fun w' => Abs_no k a h2 h4 h8 w') (fun w' => rAbs_no k a h2 h4 h8 w') (fun w' _ => Class_no k a h2 h4 h8 w') (fun w' => rClass_no k a h2 h4 h8 w')

set_option maxRecDepth 100000 in
theorem floatParts_lifted (os : Os) (started : os.Started) (H : Type) (enc : TypeId × Value → H) :
    ReturnsInHanded {} Tryd.checked os 9 .any (fun w args => (Rows.floatPartsSpec.pre enc Tryd.prog Tryd.f9 [] false w args ∧ laidMetH Tryd.prog laidL2 w) ∧ sizedMet enc Tryd.prog Tryd.f9 (OpenSpec.ofChange Rows.floatPartsSpec) false w args)
      (Rows.floatPartsSpec.post enc Tryd.prog Tryd.f9 false true false false) := by
  refine returnsInHanded_of_change_and (C := Tryd.checked) (X := fun w _ => laidMetH Tryd.prog laidL2 w) (fun _ _ _ hh h => h.of_heap hh) own started (by kernel_rfl) Tryd.func9
    (ChangeSpec.witness_shaped (enc := enc) (C := Tryd.checked) (os := os) (X := fun w _ => laidMetH Tryd.prog laidL2 w) false (World.doorLaid Tryd.prog 400 os) #[.int .i64 0, .int .i64 0] 8 rfl (World.shaped_of_RefB (by kernel_rfl) (by kernel_rfl)) (by kernel_rfl) (by kernel_rfl) (by kernel_rfl) (door_met2 os _)) ?_
  intro W base args ds gs before hval0 hW _ _ hL _
  have hval : ∀ (j : Nat) t v, Tryd.f9.params[j]? = some t → args[j]? = some v → Value.okWide Tryd.prog W .any base t v := hval0
  have hW' := hW
  obtain ⟨p, q, hA0, hV, rfl, hfz, hnd⟩ := hW
  have hA : DataW.TrodAll enc Tryd.prog W 0 (fun _ => true) true Tryd.f9.params.toList args.toList ds p := hA0
  rw [Tryd.params9] at hA hval
  obtain ⟨v0, vs0, d0, ds0, p0, q0, hargs, rfl, rfl, h0, r0⟩ := trodAll_cons hA
  obtain ⟨v1, vs1, d1, ds1, p1, q1, rfl, rfl, rfl, h1, r1⟩ := trodAll_cons r0
  obtain ⟨rfl, rfl, rfl⟩ := trodAll_nil r1
  obtain rfl : args = #[v0, v1] := by cases args; simp_all
  obtain ⟨rfl, rfl⟩ := trodVars_none hV
  obtain ⟨a0, rfl, rfl, rfl, w0⟩ := open_int Tryd.underlying3 (hval 0 3 v0 rfl rfl) h0
  obtain ⟨a1, rfl, rfl, rfl, w1⟩ := open_int Tryd.underlying3 (hval 1 3 v1 rfl rfl) h1
  have hcn := of_laid2 hL
  clear hA0 hval0
  simp only [List.append_nil] at hW'
  refine (floatParts_walk a0 a1 (by have := bounds_i64 w0; unfold I64; omega) (by have := bounds_i64 w1; unfold I64; omega) W hcn).mono fun e W' ⟨he, hb⟩ => ?_
  subst he
  exact ⟨_, rfl, post_plain hW' (fun _ _ _ => (trodAll_cons_mk (shut_bool Tryd.underlying4 _) trodAll_mk0)) (fun _ => (trodAll_cons_mk (shut_int Tryd.underlying3 w0) (trodAll_cons_mk (shut_int Tryd.underlying3 w1) trodAll_mk0))) (fun _ => rfl) hb (ok_one (by kernel_rfl) rfl (okWide_bool_mk Tryd.underlying4 _))⟩

theorem floatParts_holds : Rows.FloatPartsSaid :=
  OpenClaim.holds_of_wide 9 Tryd.f9 rfl rfl rfl rfl rfl rfl rfl ⟨rfl, rfl, rfl, rfl, rfl⟩ rfl rfl rfl rfl rfl (by kernel_rfl) Tryd.func9 (by kernel_rfl)
    (of_decide_eq_true (by kernel_rfl)) (by unfold Func.isWrapper; first | (rw [if_pos (by decide +kernel)]; kernel_rfl) | (rw [if_neg (by decide +kernel)]; exact ⟨rfl, rfl⟩))
    (fun os started H enc _ => floatParts_lifted os started H enc)

theorem floatParts_card : Rows.FloatPartsCardSaid :=
  Claim7.holds_tied_plain_at .later [] [.data, .data] true Rows.floatPartsCard.stood.harness false
    floatParts_holds (fun _ h => by cases h) (by kernel_rfl) (fun _ h => by cases h) floatParts_row_tie rfl ⟨rfl, rfl⟩ (by kernel_rfl) rfl
    (fun f fn hf hfn => by
      obtain rfl : f = 9 := Option.some.inj ((show Tryd.prog.funcNamed "quadrat/quadratlaw01.FloatParts" = some 9 by kernel_rfl).symm.trans hf) |>.symm
      obtain rfl : fn = Tryd.f9 := (Option.some.inj (Tryd.func9.symm.trans hfn)).symm
      exact ⟨by kernel_rfl, fun j t ht => by
        rw [Tryd.params9] at ht
        have hm : t ∈ [3, 3] := by simpa using Array.mem_of_getElem? ht
        have hall : ([3, 3].all fun u => !Tryd.prog.wantsStandIn u) = true := by kernel_rfl
        exact (show Tryd.prog.wantsStandIn t = false by simpa using List.all_eq_true.1 hall t hm)⟩)
    (by kernel_rfl)
#print axioms floatParts_card
end Go.Proofs.YtfdenbgmogojeaaDoor

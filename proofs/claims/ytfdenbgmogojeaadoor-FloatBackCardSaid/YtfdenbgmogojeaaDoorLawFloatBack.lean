/-
  PROVED: the law FloatBack (a float is made again of its parts, and is the same behind a greater kind, without flags) returns true for every three ints and leaves them as they were. Conditions: the tables of class names and of math/bits hold what the program's text lays (tied by the card).
-/
import Derived.Test.YtfdenbgmogojeaaDoorLawC
import Derived.Test.YtfdenbgmogojeaaDoorFloBk
import Derived.Test.YtfdenbgmogojeaaDoorFloPt
import Derived.Test.YtfdenbgmogojeaaDoorCards
import Derived.Test.YtfdenbgmogojeaaDoorTie
import Derived.SevenTiedAt
namespace Go.Proofs.YtfdenbgmogojeaaDoor
open Go Go.ChangeShapes Go.WideShapes Go.ChangeAt Go.WideMaps Go.WideElems Go.RowKit

theorem odd_part2 (M : Nat) : 0 < M → ∃ t m, m % 2 = 1 ∧ M = 2 ^ t * m := by
  induction M using Nat.strongRecOn with
  | ind M ih =>
    intro h
    by_cases c : M % 2 = 1
    · exact ⟨0, M, c, by simp⟩
    · obtain ⟨t, m, hm, e⟩ := ih (M / 2) (by omega) (by omega)
      exact ⟨t + 1, m, hm, by rw [Nat.pow_succ, Nat.mul_comm (2 ^ t), Nat.mul_assoc, ← e]; omega⟩
theorem kk_or5 (k : Int) : NoK k ∨ (∃ W D E, KK k W D E) := by
  by_cases c2 : k = 2
  · exact .inr ⟨16, 11, 5, .inl ⟨c2, rfl, rfl, rfl⟩⟩
  by_cases c4 : k = 4
  · exact .inr ⟨32, 24, 8, .inr (.inl ⟨c4, rfl, rfl, rfl⟩)⟩
  by_cases c8 : k = 8
  · exact .inr ⟨64, 53, 11, .inr (.inr ⟨c8, rfl, rfl, rfl⟩)⟩
  · exact .inl ⟨by simp [c2], by simp [c4], by simp [c8]⟩

set_option maxHeartbeats 2000000 in
theorem back_early (k mode a s m x e : Int) (w : World)
    (h1 : Calls Tryd.prog 36 #[.int .i64 k, .int .i64 a] w fun e' w' => e' = .returned (.tuple #[.int .i64 s, .int .i64 m, .int .i64 x, .int .i64 e]) ∧ Below w.heap.size w w')
    (hcond : mode < 0 ∨ (0 ≤ mode ∧ 3 < mode) ∨ (0 ≤ mode ∧ mode ≤ 3 ∧ e = 2)) (hcn : CN w) :
    Calls Tryd.prog 12 #[.int .i64 k, .int .i64 mode, .int .i64 a] w fun e w' => e = .returned (.bool true) ∧ Below w.heap.size w w' := by
  have H1 := Lib.hid h1; clear h1
  have Hn := Lib.hid hcn; clear hcn
  rcases hcond with c | ⟨c1, c2⟩ | ⟨c1, c2, rfl⟩
  all_goals
    go_enter Tryd.func12, Tryd.ntmps12
    go_wp2_with fail
    refine H1.out.mono ?_
    rintro e' w1 ⟨rfl, hB⟩
    go_wp2_with fail
    refine (Awake_c _ (Hn.out.keep hB)).mono ?_
    rintro e' w5 ⟨rfl, hb⟩
    have hB := bt hB hb
    go_wp2
    go_ret
    exact ⟨rfl, hB⟩

set_option maxRecDepth 100000 in
set_option maxHeartbeats 4000000 in
theorem back_main (k mode a s m x e : Int) (N : Prop) (w : World)
    (h1 : Calls Tryd.prog 36 #[.int .i64 k, .int .i64 a] w fun e' w' => e' = .returned (.tuple #[.int .i64 s, .int .i64 m, .int .i64 x, .int .i64 e]) ∧ Below w.heap.size w w')
    (hm0 : 0 ≤ mode) (hm3 : mode ≤ 3)
    (he : e = 10 ∨ (e = 0 ∧ ∀ w, Calls Tryd.prog 44 #[.int .i64 k, .int .i64 mode, .int .i64 s, .int .i64 m, .int .i64 x] w fun e' w' => e' = .returned (.tuple #[.int .i64 a, .int .i64 0, .int .i64 0]) ∧ Below w.heap.size w w'))
    (hv : ∀ w, Calls Tryd.prog 28 #[.int .i64 k, .int .i64 a] w fun e' w' => e' = .returned (.bool true) ∧ Below w.heap.size w w')
    (hk : k = 2 ∨ k = 4 ∨ k = 8)
    (hp : ∀ t, ((t = 4 ∧ k = 2) ∨ (t = 8 ∧ (k = 2 ∨ k = 4))) → ∃ b c, (∀ w, Calls Tryd.prog 34 #[.int .i64 k, .int .i64 t, .int .i64 mode, .int .i64 a] w fun e w' => e = .returned (.tuple #[.int .i64 b, .int .i64 0, .int .i64 0]) ∧ Below w.heap.size w w') ∧
      (∀ w, Calls Tryd.prog 34 #[.int .i64 t, .int .i64 k, .int .i64 mode, .int .i64 b] w fun e w' => e = .returned (.tuple #[.int .i64 c, .int .i64 0, .int .i64 0]) ∧ Below w.heap.size w w') ∧ (c = a ∨ N))
    (hcl : N → ∀ w, CN w → Calls Tryd.prog 42 #[.int .i64 k, .int .i64 a] w fun e w' => e = .returned (.string ⟨#[110, 111, 110, 101]⟩) ∧ Below w.heap.size w w')
    (hcn : CN w) :
    Calls Tryd.prog 12 #[.int .i64 k, .int .i64 mode, .int .i64 a] w fun e w' => e = .returned (.bool true) ∧ Below w.heap.size w w' := by
  have H1 := Lib.hid h1; clear h1
  have Hn := Lib.hid hcn; clear hcn
  have Hv := Lib.hid hv; clear hv
  have Hp := Lib.hid hp; clear hp
  have Hcl := Lib.hid hcl; clear hcl
  have t1 : (a != a) = false := by simp
  have key : ∀ w', Below w.heap.size w w' → Hid (CN w') := fun w' hb => Lib.hid (Hn.out.keep hb)
  have Key := Lib.hid key; clear key
  have hkk : 2 ≤ k ∧ k ≤ 8 := by omega
  obtain ⟨k0, k8⟩ := hkk
  have Hk := Lib.hid hk; clear hk
  rcases he with rfl | ⟨rfl, hmk⟩
  all_goals
    (try have Hmk := Lib.hid hmk)
    (try clear hmk)
    go_enter Tryd.func12, Tryd.ntmps12
    go_wp2_with fail
    refine H1.out.mono ?_
    rintro e' w1 ⟨rfl, hB⟩
    go_wp2_with fail
    refine (Hv.out _).mono ?_
    rintro e' w2 ⟨rfl, hb⟩
    have hB := bt hB hb
    go_wp2_with fail
    first
      | (refine (Hmk.out _).mono ?_
         rintro e' w3 ⟨rfl, hb⟩
         have hB := bt hB hb
         go_wp2_with fail)
      | skip
    go_loopw [14] (fun u wr => ∃ t : Int, u = .int .i64 t ∧ ((t = 4 ∧ k = 2) ∨ (t = 8 ∧ (k = 2 ∨ k = 4)) ∨ t = 16) ∧ Below w.heap.size w wr) (fun u _ => (16 - intOf u).toNat)
    case atStart => exact ⟨2 * k, rfl, by have := Hk.out; omega, hB⟩
    case round =>
      obtain ⟨t, rfl, ht, hbe⟩ := hrel
      by_cases c16 : t = 16
      · subst c16
        clear ht
        go_wp2_with fail
        refine (Awake_c _ (Key.out _ hbe).out).mono ?_
        rintro e' w5 ⟨rfl, hb⟩
        have hB := bt hbe hb
        go_wp2
        go_ret
        exact ⟨rfl, hB⟩
      · obtain ⟨b, c, hc1, hc2, hc3⟩ := Hp.out t (by omega)
        have Hc1 := Lib.hid hc1; clear hc1
        have Hc2 := Lib.hid hc2; clear hc2
        have Hc3 := Lib.hid hc3; clear hc3
        have tb : 4 ≤ t ∧ t ≤ 8 := by omega
        obtain ⟨tb0, tb1⟩ := tb
        have hnext : (2 * t = 8 ∧ (k = 2 ∨ k = 4)) ∨ 2 * t = 16 := by omega
        have Hnext := Lib.hid hnext; clear hnext
        clear ht
        by_cases ca : c = a
        · subst ca
          go_wp2_with fail
          refine (Hc1.out _).mono ?_
          rintro e' w5 ⟨rfl, hb⟩
          have hbe := bt hbe hb
          go_wp2_with fail
          refine (Hc2.out _).mono ?_
          rintro e' w6 ⟨rfl, hb⟩
          have hbe := bt hbe hb
          go_wp2_with fail
          go_roundw
          case rel => exact ⟨t * 2, rfl, by have := Hnext.out; omega, hbe⟩
          case measure => simp [intOf]; omega
        · have hne : (c != a) = true := by simp [ca]
          have hN : N := by rcases Hc3.out with q | q; exact absurd q ca; exact q
          have HN := Lib.hid (Hcl.out hN)
          clear ca
          go_wp2_with fail
          refine (Hc1.out _).mono ?_
          rintro e' w5 ⟨rfl, hb⟩
          have hbe := bt hbe hb
          go_wp2_with fail
          refine (Hc2.out _).mono ?_
          rintro e' w6 ⟨rfl, hb⟩
          have hbe := bt hbe hb
          go_wp2_with fail
          refine (HN.out _ (Key.out _ hbe).out).mono ?_
          rintro e' w7 ⟨rfl, hb⟩
          have hbe := bt hbe hb
          go_wp2_with fail
          go_roundw
          case rel => exact ⟨t * 2, rfl, by have := Hnext.out; omega, hbe⟩
          case measure => simp [intOf]; omega

theorem floatBack_walk (k mode a : Int) (_ : I64 k) (_ : I64 mode) (hi : I64 a) (w : World) (hcn : CN w ∧ DB w) :
    Calls Tryd.prog 12 #[.int .i64 k, .int .i64 mode, .int .i64 a] w fun e w' => e = .returned (.bool true) ∧ Below w.heap.size w w' := by
  have hmc : mode < 0 ∨ (0 ≤ mode ∧ 3 < mode) ∨ (0 ≤ mode ∧ mode ≤ 3) := by omega
  have early : ∀ s m x e, (Calls Tryd.prog 36 #[.int .i64 k, .int .i64 a] w fun e' w' => e' = .returned (.tuple #[.int .i64 s, .int .i64 m, .int .i64 x, .int .i64 e]) ∧ Below w.heap.size w w') → ¬ (0 ≤ mode ∧ mode ≤ 3) →
      Calls Tryd.prog 12 #[.int .i64 k, .int .i64 mode, .int .i64 a] w fun e w' => e = .returned (.bool true) ∧ Below w.heap.size w w' := fun s m x e hp hn =>
    back_early k mode a s m x e w hp (by omega) hcn.1
  rcases kk_or5 k with ⟨h2, h4, h8⟩ | ⟨W, D, E, hk⟩
  · exact back_early k mode a 0 0 0 2 w (Parts_no k a h2 h4 h8 w) (by omega) hcn.1
  · cases hv : okB W a
    · exact back_early k mode a 0 0 0 2 w (Parts_out k W D E a hk hv w) (by omega) hcn.1
    · have hval : ∀ w, Calls Tryd.prog 28 #[.int .i64 k, .int .i64 a] w fun e' w' => e' = .returned (.bool true) ∧ Below w.heap.size w w' := fun w' => by
        have h := Valid_c k W D E a hk w'; rw [hv] at h; exact h
      have hk3 : k = 2 ∨ k = 4 ∨ k = 8 := by rcases hk with ⟨e, _⟩ | ⟨e, _⟩ | ⟨e, _⟩ <;> simp [e]
      have hcls : cls D (siz W a) = 4 → ∀ w, CN w → Calls Tryd.prog 42 #[.int .i64 k, .int .i64 a] w fun e w' => e = .returned (.string ⟨#[110, 111, 110, 101]⟩) ∧ Below w.heap.size w w' := fun h w' hw =>
        Class_c k W D E a 4 _ hk hv (by decide) h w' (hw 4 _ rfl)
      have hpair : Mode mode → ∀ t, ((t = 4 ∧ k = 2) ∨ (t = 8 ∧ (k = 2 ∨ k = 4))) → ∃ b c, (∀ w, Calls Tryd.prog 34 #[.int .i64 k, .int .i64 t, .int .i64 mode, .int .i64 a] w fun e w' => e = .returned (.tuple #[.int .i64 b, .int .i64 0, .int .i64 0]) ∧ Below w.heap.size w w') ∧
          (∀ w, Calls Tryd.prog 34 #[.int .i64 t, .int .i64 k, .int .i64 mode, .int .i64 b] w fun e w' => e = .returned (.tuple #[.int .i64 c, .int .i64 0, .int .i64 0]) ∧ Below w.heap.size w w') ∧ (c = a ∨ cls D (siz W a) = 4) := fun hm t ht => by
        have hD : (k = 2 → D = 11) ∧ (k = 4 → D = 24) := by rcases hk with ⟨e, _, d, _⟩ | ⟨e, _, d, _⟩ | ⟨e, _, d, _⟩ <;> (rw [e, d]; decide)
        rcases ht with ⟨rfl, h⟩ | ⟨rfl, h⟩
        · exact back_pair k W D E 4 32 24 8 mode a hk (.inr (.inl ⟨rfl, rfl, rfl, rfl⟩)) (by have := hD.1 h; omega) hm hv hi
        · exact back_pair k W D E 8 64 53 11 mode a hk (.inr (.inr ⟨rfl, rfl, rfl, rfl⟩)) (by rcases h with h | h; have := hD.1 h; omega; have := hD.2 h; omega) hm hv hi
      have main : ∀ s m x e, (Calls Tryd.prog 36 #[.int .i64 k, .int .i64 a] w fun e' w' => e' = .returned (.tuple #[.int .i64 s, .int .i64 m, .int .i64 x, .int .i64 e]) ∧ Below w.heap.size w w') →
          (Mode mode → e = 10 ∨ (e = 0 ∧ ∀ w, Calls Tryd.prog 44 #[.int .i64 k, .int .i64 mode, .int .i64 s, .int .i64 m, .int .i64 x] w fun e' w' => e' = .returned (.tuple #[.int .i64 a, .int .i64 0, .int .i64 0]) ∧ Below w.heap.size w w')) →
          Calls Tryd.prog 12 #[.int .i64 k, .int .i64 mode, .int .i64 a] w fun e w' => e = .returned (.bool true) ∧ Below w.heap.size w w' := fun s m x e hp he => by
        by_cases hm : 0 ≤ mode ∧ mode ≤ 3
        · have hmm : Mode mode := by unfold Mode; omega
          exact back_main k mode a s m x e _ w hp hm.1 hm.2 (he hmm) hval hk3 (hpair hmm) hcls hcn.1
        · exact early s m x e hp hm
      have hcc := cls_nn D (siz W a)
      have hc5 : cls D (siz W a) = 0 ∨ (cls D (siz W a) = 3 ∨ cls D (siz W a) = 4) ∨ (cls D (siz W a) = 1 ∨ cls D (siz W a) = 2) := by omega
      rcases hc5 with c | c | c
      · have hz : siz W a = 0 := by
          obtain ⟨g1, g2, g3, _⟩ := hid_b W D E hk.kl
          unfold cls at c
          repeat' split at c
          all_goals first | assumption | (exfalso; omega) | cases c
        refine main _ _ _ _ (Parts_zero k W D E a hk hv c w) (fun hm => .inr ⟨rfl, fun w' => ?_⟩)
        have h := Make_zero k W D E mode (sgn W a) 0 hk hm (sgn_s W a) (by decide) (by decide) w'
        rw [jn_eta0 W D E a 0 hk.kl hv hi hz] at h
        exact h
      · exact main _ _ _ _ (Parts_far k W D E a hk hv c w) (fun _ => .inl rfl)
      · obtain ⟨z0, z1⟩ := siz_b W D E a hk.kl
        obtain ⟨m0, m1, m2⟩ := mant_b W D E _ hk.kl z0 z1
        obtain ⟨g1, g2, g3, g4, g5⟩ := hid_b W D E hk.kl
        obtain ⟨x0, x1, _⟩ := expo_b W D E _ hk.kl z0 (by rcases c with q | q <;> omega)
        have hpos := mant_pos W D E a hk.kl c
        have hz : 0 < siz W a ∧ siz W a < endl D := by
          unfold cls at c
          repeat' split at c
          all_goals first | (constructor <;> omega) | (exfalso; omega)
        obtain ⟨t, m, hm, hM⟩ := odd_part2 (mant D (siz W a)).toNat (by omega)
        have hMi : mant D (siz W a) = ((2 ^ t * m : Nat) : Int) := by rw [← hM]; exact (Int.toNat_of_nonneg m0).symm
        have ht : t < 64 := by
          have h1 : 2 ^ t ≤ (mant D (siz W a)).toNat := by rw [hM]; exact Nat.le_mul_of_pos_right _ (by omega)
          have h2 : 2 ^ t < 2 ^ 64 := by omega
          exact (Nat.pow_lt_pow_iff_right (by decide : 1 < 2)).1 h2
        have hml : (m : Int) ≤ mant D (siz W a) := by
          rw [hMi]; exact Int.ofNat_le.2 (Nat.le_mul_of_pos_left m (Nat.two_pow_pos t))
        refine main _ _ _ _ (Parts_fin k W D E a t m hk hv c ht hm hMi w hcn.2) (fun hmm => .inr ⟨rfl, fun w' => ?_⟩)
        have h := Make_c k W D E mode (sgn W a) (m : Int) (expo D (siz W a) + t) hk hmm (sgn_s W a) (by omega) (by omega) (by omega) (by omega) w'
        rw [Int.toNat_natCast, round_exact W D E mode (sgn W a) (siz W a) hk.kl hz.1 hz.2 m _ (.inr ⟨t, by rw [hM, Nat.mul_comm], rfl⟩), jn_eta W D E a hk.kl hv hi] at h
        exact h

set_option maxRecDepth 100000 in
theorem floatBack_lifted (os : Os) (started : os.Started) (H : Type) (enc : TypeId × Value → H) :
    ReturnsInHanded {} Tryd.checked os 12 .any (fun w args => (Rows.floatBackSpec.pre enc Tryd.prog Tryd.f12 [] false w args ∧ laidMetH Tryd.prog laidL2 w) ∧ sizedMet enc Tryd.prog Tryd.f12 (OpenSpec.ofChange Rows.floatBackSpec) false w args)
      (Rows.floatBackSpec.post enc Tryd.prog Tryd.f12 false true false false) := by
  refine returnsInHanded_of_change_and (C := Tryd.checked) (X := fun w _ => laidMetH Tryd.prog laidL2 w) (fun _ _ _ hh h => h.of_heap hh) own started (by kernel_rfl) Tryd.func12
    (ChangeSpec.witness_shaped (enc := enc) (C := Tryd.checked) (os := os) (X := fun w _ => laidMetH Tryd.prog laidL2 w) false (World.doorLaid Tryd.prog 400 os) #[.int .i64 0, .int .i64 0, .int .i64 0] 8 rfl (World.shaped_of_RefB (by kernel_rfl) (by kernel_rfl)) (by kernel_rfl) (by kernel_rfl) (by kernel_rfl) (door_met2 os _)) ?_
  intro W base args ds gs before hval0 hW _ _ hL _
  have hval : ∀ (j : Nat) t v, Tryd.f12.params[j]? = some t → args[j]? = some v → Value.okWide Tryd.prog W .any base t v := hval0
  have hW' := hW
  obtain ⟨p, q, hA0, hV, rfl, hfz, hnd⟩ := hW
  have hA : DataW.TrodAll enc Tryd.prog W 0 (fun _ => true) true Tryd.f12.params.toList args.toList ds p := hA0
  rw [Tryd.params12] at hA hval
  obtain ⟨v0, vs0, d0, ds0, p0, q0, hargs, rfl, rfl, h0, r0⟩ := trodAll_cons hA
  obtain ⟨v1, vs1, d1, ds1, p1, q1, rfl, rfl, rfl, h1, r1⟩ := trodAll_cons r0
  obtain ⟨v2, vs2, d2, ds2, p2, q2, rfl, rfl, rfl, h2, r2⟩ := trodAll_cons r1
  obtain ⟨rfl, rfl, rfl⟩ := trodAll_nil r2
  obtain rfl : args = #[v0, v1, v2] := by cases args; simp_all
  obtain ⟨rfl, rfl⟩ := trodVars_none hV
  obtain ⟨a0, rfl, rfl, rfl, w0⟩ := open_int Tryd.underlying3 (hval 0 3 v0 rfl rfl) h0
  obtain ⟨a1, rfl, rfl, rfl, w1⟩ := open_int Tryd.underlying3 (hval 1 3 v1 rfl rfl) h1
  obtain ⟨a2, rfl, rfl, rfl, w2⟩ := open_int Tryd.underlying3 (hval 2 3 v2 rfl rfl) h2
  have hcn := of_laid2 hL
  clear hA0 hval0
  simp only [List.append_nil] at hW'
  refine (floatBack_walk a0 a1 a2 (by have := bounds_i64 w0; unfold I64; omega) (by have := bounds_i64 w1; unfold I64; omega) (by have := bounds_i64 w2; unfold I64; omega) W hcn).mono fun e W' ⟨he, hb⟩ => ?_
  subst he
  exact ⟨_, rfl, post_plain hW' (fun _ _ _ => (trodAll_cons_mk (shut_bool Tryd.underlying4 _) trodAll_mk0)) (fun _ => (trodAll_cons_mk (shut_int Tryd.underlying3 w0) (trodAll_cons_mk (shut_int Tryd.underlying3 w1) (trodAll_cons_mk (shut_int Tryd.underlying3 w2) trodAll_mk0)))) (fun _ => rfl) hb (ok_one (by kernel_rfl) rfl (okWide_bool_mk Tryd.underlying4 _))⟩

theorem floatBack_holds : Rows.FloatBackSaid :=
  OpenClaim.holds_of_wide 12 Tryd.f12 rfl rfl rfl rfl rfl rfl rfl ⟨rfl, rfl, rfl, rfl, rfl⟩ rfl rfl rfl rfl rfl (by kernel_rfl) Tryd.func12 (by kernel_rfl)
    (of_decide_eq_true (by kernel_rfl)) (by unfold Func.isWrapper; first | (rw [if_pos (by decide +kernel)]; kernel_rfl) | (rw [if_neg (by decide +kernel)]; exact ⟨rfl, rfl⟩))
    (fun os started H enc _ => floatBack_lifted os started H enc)

theorem floatBack_card : Rows.FloatBackCardSaid :=
  Claim7.holds_tied_plain_at .later [] [.data, .data] true Rows.floatBackCard.stood.harness false
    floatBack_holds (fun _ h => by cases h) (by kernel_rfl) (fun _ h => by cases h) floatBack_row_tie rfl ⟨rfl, rfl⟩ (by kernel_rfl) rfl
    (fun f fn hf hfn => by
      obtain rfl : f = 12 := Option.some.inj ((show Tryd.prog.funcNamed "quadrat/quadratlaw01.FloatBack" = some 12 by kernel_rfl).symm.trans hf) |>.symm
      obtain rfl : fn = Tryd.f12 := (Option.some.inj (Tryd.func12.symm.trans hfn)).symm
      exact ⟨by kernel_rfl, fun j t ht => by
        rw [Tryd.params12] at ht
        have hm : t ∈ [3, 3, 3] := by simpa using Array.mem_of_getElem? ht
        have hall : ([3, 3, 3].all fun u => !Tryd.prog.wantsStandIn u) = true := by kernel_rfl
        exact (show Tryd.prog.wantsStandIn t = false by simpa using List.all_eq_true.1 hall t hm)⟩)
    (by kernel_rfl)
#print axioms floatBack_card
end Go.Proofs.YtfdenbgmogojeaaDoor

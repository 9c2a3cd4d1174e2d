/- Contract of quadratref01's Parts of a least or normal float: its sign, the odd number and the exponent, as the code's. -/
import Derived.Test.YtfdenbgmogojeaaDoorRefH
import Derived.Test.YtfdenbgmogojeaaDoorRefJ
namespace Go.Proofs.YtfdenbgmogojeaaDoor
open Go.RowKit

theorem dg_get (n j i : Nat) (h : i < j) : (dg n j)[i]? = some (.int .u8 ((n / 2 ^ i % 2 : Nat) : Int)) := by
  unfold dg; rw [List.getElem?_map, List.getElem?_range h]; rfl

theorem dg_drop (t m j : Nat) : ((dg (2 ^ t * m) (t + j)).drop t) = dg m j := by
  apply List.ext_getElem?
  intro i
  rw [List.getElem?_drop]
  by_cases h : i < j
  · rw [dg_get _ _ _ (by omega), dg_get _ _ _ h, Nat.pow_add, ← Nat.div_div_eq_div_mul, Nat.mul_div_cancel_left m (Nat.two_pow_pos t)]
  · rw [List.getElem?_eq_none (by rw [dg_length]; omega), List.getElem?_eq_none (by rw [dg_length]; omega)]

theorem odd_digit (t m i : Nat) (hm : m % 2 = 1) (hi : i ≤ t) : (2 ^ t * m) / 2 ^ i % 2 = if i = t then 1 else 0 := by
  have hp := Nat.two_pow_pos i
  obtain ⟨d, rfl⟩ : ∃ d, t = i + d := ⟨t - i, by omega⟩
  rw [Nat.pow_add, Nat.mul_assoc, Nat.mul_div_cancel_left _ hp]
  by_cases h : d = 0
  · subst h; rw [if_pos (by omega)]; simpa using hm
  · rw [if_neg (by omega)]
    obtain ⟨c, rfl⟩ : ∃ c, d = c + 1 := ⟨d - 1, by omega⟩
    rw [Nat.pow_succ, Nat.mul_comm (2 ^ c), Nat.mul_assoc, Nat.mul_mod_right]

theorem bl_gt_t (t m : Nat) (hm : m % 2 = 1) : t < bl (2 ^ t * m) :=
  bl_of_pos _ _ (by rw [Nat.mul_div_cancel_left m (Nat.two_pow_pos t)]; omega)

/-- The digits that Down is asked for. -/
def PD (g t m J : Nat) (w : World) : Prop := ∀ (i : Nat) (v : Value), (dg m (J - t))[i]? = some v → w.cell? ⟨g, t + i, none⟩ = some v
theorem PD.keep {g t m J : Nat} {w w' : World} (h : PD g t m J w) (hb : Below w.heap.size w w') : PD g t m J w' := fun i v hi => by
  have h1 := h i v hi
  rw [hb.cell (p := ⟨g, t + i, none⟩) (World.block_lt_of_cell? w _ h1)]; exact h1
theorem keepP {w wp w' : World} {X g t m J : Nat} {a b c : Value} (h : Below w.heap.size w wp ∧ wp.cell? ⟨X, 1, none⟩ = some a ∧ wp.cell? ⟨X, 2, none⟩ = some b ∧ wp.cell? ⟨X, 3, none⟩ = some c ∧ PD g t m J wp) (hb : Below wp.heap.size wp w') :
    Below w.heap.size w w' ∧ w'.cell? ⟨X, 1, none⟩ = some a ∧ w'.cell? ⟨X, 2, none⟩ = some b ∧ w'.cell? ⟨X, 3, none⟩ = some c ∧ PD g t m J w' :=
  ⟨bt h.1 hb, by rw [hb.cell (p := ⟨X, 1, none⟩) (World.block_lt_of_cell? wp _ h.2.1)]; exact h.2.1, by rw [hb.cell (p := ⟨X, 2, none⟩) (World.block_lt_of_cell? wp _ h.2.2.1)]; exact h.2.2.1, by rw [hb.cell (p := ⟨X, 3, none⟩) (World.block_lt_of_cell? wp _ h.2.2.2.1)]; exact h.2.2.2.1, h.2.2.2.2.keep hb⟩
theorem keepP' {w wp : World} {X g t m J : Nat} {a b c : Value} (h : Below w.heap.size w wp ∧ wp.cell? ⟨X, 1, none⟩ = some a ∧ wp.cell? ⟨X, 2, none⟩ = some b ∧ wp.cell? ⟨X, 3, none⟩ = some c ∧ PD g t m J wp) :
    Below w.heap.size w wp.drew ∧ wp.drew.cell? ⟨X, 1, none⟩ = some a ∧ wp.drew.cell? ⟨X, 2, none⟩ = some b ∧ wp.drew.cell? ⟨X, 3, none⟩ = some c ∧ PD g t m J wp.drew :=
  ⟨h.1.drew, h.2.1, h.2.2.1, h.2.2.2.1, fun i v hi => h.2.2.2.2 i v hi⟩

set_option maxRecDepth 100000 in
set_option maxHeartbeats 4000000 in
theorem rParts_fin (k W D E a : Int) (t m : Nat) (hk : KK k W D E) (hv : okB W a = true) (hc : cls D (siz W a) = 1 ∨ cls D (siz W a) = 2) (ht : t < 64) (hm : m % 2 = 1)
    (hM : mant D (siz W a) = ((2 ^ t * m : Nat) : Int)) (w : World) :
    Calls Tryd.prog 37 #[.int .i64 k, .int .i64 a] w fun e w' => e = .returned (.tuple #[.int .i64 (sgn W a), .int .i64 (m : Int), .int .i64 (expo D (siz W a) + t), .int .i64 0]) ∧ Below w.heap.size w w' := by
  have h := hk.kl
  obtain ⟨z0, z1⟩ := siz_b W D E a h
  obtain ⟨m0, m1, _⟩ := mant_b W D E _ h z0 z1
  obtain ⟨e0, e1, _⟩ := expo_b W D E _ h z0 (by rcases hc with c | c <;> omega)
  obtain ⟨g1, g2, g3, g4, g5⟩ := hid_b W D E h
  have H := Lib.hid (fun w' => rValid_c k W D E a hk w')
  rw [hv] at H
  have Ht := Lib.hid (fun w' => taken_c k W D E a hk hv w')
  have hwh : whS (cls D (siz W a)) = ⟨#[102, 105, 110, 105, 116, 101]⟩ := by rcases hc with c | c <;> rw [c] <;> rfl
  have hrs : rS W D a = sgn W a := by unfold rS; rw [if_neg (by rcases hc with c | c <;> omega)]
  have hre : rE D (siz W a) = expo D (siz W a) := by unfold rE; rw [if_pos hc]
  have hMn : (mant D (siz W a)).toNat = 2 ^ t * m := by rw [hM]; exact Int.toNat_natCast _
  have hb64 : bl (2 ^ t * m) ≤ 64 := bl_mono_le _ 64 (by
    generalize 2 ^ t * m = x at hM
    omega)
  have hbt := bl_gt_t t m hm
  have hml : (m : Int) ≤ mant D (siz W a) := by
    rw [hM]; exact Int.ofNat_le.2 (Nat.le_mul_of_pos_left m (Nat.two_pow_pos t))
  have hmw : wrap64 (m : Int) = (m : Int) := by unfold wrap64; omega
  have hadd : IntKind.i64.wrap (expo D (siz W a) + (t : Int)) = expo D (siz W a) + t := by rw [IntKind.wrap_i64]; omega
  have HO := Lib.hid (fun i hi => odd_digit t m i hm hi)
  clear hk hv hc hM m0 m1 z0 z1 g1 g2 g3 g4 g5 h hml
  go_enter Tryd.func37, Tryd.ntmps37
  go_wp2_with fail
  refine (H.out _).mono ?_
  rintro e w0 ⟨rfl, rfl⟩
  go_wp2_with fail
  refine (Ht.out _).mono ?_
  rintro e w1 ⟨v0, rfl, hown, hB⟩
  rw [hMn] at hown
  obtain ⟨g, cap, rfl, hg, hcap, hcell⟩ := own_cells hown (by omega)
  clear hown
  generalize hJ : bl (2 ^ t * m) = J at *
  have hm2 : m < 2 ^ (J - t) := by
    have h1 := bl_lt (2 ^ t * m)
    rw [hJ, show J = t + (J - t) by omega, Nat.pow_add] at h1
    exact Nat.lt_of_mul_lt_mul_left h1
  have hB := hB.alloc hB.size (.cells #[.string ⟨#[102, 105, 110, 105, 116, 101]⟩, .int .i64 (sgn W a), .slice (some ⟨g, 0, none⟩) J cap, .int .i64 (expo D (siz W a))] 53)
  have hX := Has.new w1 [.string ⟨#[102, 105, 110, 105, 116, 101]⟩, .int .i64 (sgn W a), .slice (some ⟨g, 0, none⟩) J cap, .int .i64 (expo D (siz W a))] 53
  have hcell' : ∀ (i : Nat) (u : Value), (dg (2 ^ t * m) J)[i]? = some u → (w1.alloc (.cells #[.string ⟨#[102, 105, 110, 105, 116, 101]⟩, .int .i64 (sgn W a), .slice (some ⟨g, 0, none⟩) J cap, .int .i64 (expo D (siz W a))] 53)).cell? ⟨g, i, none⟩ = some u := fun i u hu => by
    have h1 := hcell i u hu
    rw [((Below.refl w1.heap.size w1).alloc (Nat.le_refl _) _).cell (p := ⟨g, i, none⟩) (World.block_lt_of_cell? w1 _ h1)]; exact h1
  have hdown : ∀ (i : Nat) (v : Value), (dg m (J - t))[i]? = some v → (w1.alloc (.cells #[.string ⟨#[102, 105, 110, 105, 116, 101]⟩, .int .i64 (sgn W a), .slice (some ⟨g, 0, none⟩) J cap, .int .i64 (expo D (siz W a))] 53)).cell? ⟨g, t + i, none⟩ = some v := fun i v hv => by
    refine hcell' (t + i) v ?_
    rw [← hv, ← dg_drop t m (J - t), List.getElem?_drop, show t + (J - t) = J by omega]
  have hdig : ∀ i, i ≤ t → (w1.alloc (.cells #[.string ⟨#[102, 105, 110, 105, 116, 101]⟩, .int .i64 (sgn W a), .slice (some ⟨g, 0, none⟩) J cap, .int .i64 (expo D (siz W a))] 53)).cell? ⟨g, i, none⟩ = some (.int .u8 (if i = t then 1 else 0)) := fun i hi => by
    have h1 := hcell' i _ (dg_get _ J i (by omega))
    rw [HO.out i hi] at h1
    rw [h1]; split <;> rfl
  have hu8 : ∀ v, v ∈ dg m (J - t) → ∃ d, v = .int .u8 d := fun v hv => by
    unfold dg at hv; rw [List.mem_map] at hv; obtain ⟨i, _, rfl⟩ := hv; exact ⟨_, rfl⟩
  obtain ⟨x0, x1, x2, x3⟩ := hX.c4
  go_wp2
  generalize w1.alloc (.cells #[.string ⟨#[102, 105, 110, 105, 116, 101]⟩, .int .i64 (sgn W a), .slice (some ⟨g, 0, none⟩) J cap, .int .i64 (expo D (siz W a))] 53) = wx at *
  generalize w1.heap.size = X at *
  clear hcell hcell' hX
  have Hd := Lib.hid hdown; clear hdown
  have Hg := Lib.hid hdig; clear hdig
  have HJ := Lib.hid hJ; clear hJ
  have Hm2 := Lib.hid hm2; clear hm2
  have Hu := Lib.hid hu8; clear hu8
  have Hmw := Lib.hid hmw; clear hmw
  have Hadd := Lib.hid hadd; clear hadd
  go_loopw [9] (fun u wr => ∃ k : Nat, k ≤ t ∧ u = .int .i64 (k : Int) ∧ wr = wx) (fun u _ => t - (intOf u).toNat)
  case atStart => exact ⟨0, Nat.zero_le _, rfl, rfl⟩
  case round =>
    obtain ⟨k', hk, rfl, rfl⟩ := hrel
    have hcd := Hg.out k' hk
    by_cases hkt : k' = t
    · rw [if_pos hkt] at hcd
      subst hkt
      go_wp2
      have hPD : PD g k' m J wr := Hd.out
      have hS : Below w.heap.size w wr ∧ wr.cell? ⟨X, 1, none⟩ = some (.int .i64 (sgn W a)) ∧ wr.cell? ⟨X, 2, none⟩ = some (.slice (some ⟨g, 0, none⟩) J cap) ∧ wr.cell? ⟨X, 3, none⟩ = some (.int .i64 (expo D (siz W a))) ∧ PD g k' m J wr := ⟨hB, x1, x2, x3, hPD⟩
      go_region_held3 (fun w' => Below w.heap.size w w' ∧ w'.cell? ⟨X, 1, none⟩ = some (.int .i64 (sgn W a)) ∧ w'.cell? ⟨X, 2, none⟩ = some (.slice (some ⟨g, 0, none⟩) J cap) ∧ w'.cell? ⟨X, 3, none⟩ = some (.int .i64 (expo D (siz W a))) ∧ PD g k' m J w') (first | exact hS | exact keepP' hS | exact keepP (by assumption) hb | assumption)
        (first | (go_at_call 85; refine (rDown_c g cap J k' (dg m (J - k')) hbt hb64 hcap _ (by assumption) (by rw [dg_length]) Hu.out).mono ?_; rintro e w' ⟨v2, rfl, hown2, hb⟩; obtain ⟨g2, cap2, rfl, hg2, hcap2, hcell2⟩ := own_cells hown2 (by omega)) | (go_at_call 88; refine (rInt_c g2 cap2 (J - k') m Hm2.out (by omega) _ (fun i hi => hcell2 i _ (dg_get _ _ _ hi))).mono ?_; rintro e w' ⟨rfl, rfl⟩))
      rename_i hH
      obtain ⟨hB, _, _, _, _⟩ := hH
      go_wp2
      ((try simp only [Exit.inBlock, Exit.then]); refine bodyPost_ret (results_tmp4 rfl _ _ _) rfl ?_)
      exact ⟨Eq.trans (show _ = Ending.returned (.tuple #[.int .i64 (sgn W a), .int .i64 (wrap64 (m : Int)), .int .i64 (IntKind.i64.wrap (expo D (siz W a) + (k' : Int))), .int .i64 0]) from rfl) (by rw [Hmw.out, Hadd.out]), hB⟩
    · rw [if_neg hkt] at hcd
      go_wp2
      go_roundw
      case rel => exact ⟨k' + 1, by omega, by simp, trivial⟩
      case measure => simp [intOf]; omega
end Go.Proofs.YtfdenbgmogojeaaDoor

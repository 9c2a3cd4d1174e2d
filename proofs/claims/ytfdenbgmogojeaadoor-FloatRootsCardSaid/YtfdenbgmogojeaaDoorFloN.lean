/- The plain mathematics of shifting and cutting numbers of 128 bits and of rounding them to a float; no program; conditions as written at each lemma. -/
import Derived.Test.YtfdenbgmogojeaaDoorFloM
import Derived.Test.YtfdenbgmogojeaaDoorFloK
namespace Go.Proofs.YtfdenbgmogojeaaDoor
open Go Go.RowKit

/-- A number of 128 bits by its halves; its halves. -/
def nn (hi lo : Int) : Nat := (hi * 18446744073709551616 + lo).toNat
def hiP (n : Nat) : Int := ((n / 18446744073709551616 : Nat) : Int)
def loP (n : Nat) : Int := ((n % 18446744073709551616 : Nat) : Int)
def lostB (n k : Nat) : Bool := decide (n % 2 ^ k ≠ 0)
/-- An unsigned number of 64 bits. -/
def U64 (x : Int) : Prop := 0 ≤ x ∧ x < 18446744073709551616

theorem nn_nat (h l : Nat) : nn (h : Int) (l : Int) = h * 18446744073709551616 + l := by unfold nn; omega

theorem pq (k : Nat) (hk : k ≤ 64) : 2 ^ k * 2 ^ (64 - k) = 18446744073709551616 := by
  rw [← Nat.pow_add, show k + (64 - k) = 64 by omega]
theorem dvd64 (k : Nat) (hk : k ≤ 64) : 2 ^ (64 - k) ∣ 18446744073709551616 := ⟨2 ^ k, by rw [Nat.mul_comm, pq k hk]⟩

theorem toNat_sub64 (k : Int) (h0 : 0 ≤ k) : (64 - k).toNat = 64 - k.toNat := by omega

/-- k below 64: the high half. -/
theorem sh_hi (h l k : Nat) (hl : l < 18446744073709551616) : (h * 18446744073709551616 + l) / 2 ^ k / 18446744073709551616 = h / 2 ^ k := by
  rw [Nat.div_div_eq_div_mul, Nat.mul_comm (2 ^ k), ← Nat.div_div_eq_div_mul]
  congr 1; omega
/-- k below 64: the low half. -/
theorem sh_lo (h l k : Nat) (hk : k ≤ 64) (hl : l < 18446744073709551616) :
    (h * 18446744073709551616 + l) / 2 ^ k % 18446744073709551616 = l / 2 ^ k + h * 2 ^ (64 - k) % 18446744073709551616 := by
  have hp : 0 < 2 ^ k := Nat.two_pow_pos k
  have hq : 0 < 2 ^ (64 - k) := Nat.two_pow_pos _
  have e := pq k hk
  have e1 : h * 18446744073709551616 + l = l + h * 2 ^ (64 - k) * 2 ^ k := by rw [← e]; rw [Nat.mul_assoc, Nat.mul_comm (2 ^ k)]; omega
  rw [e1, Nat.add_mul_div_right _ _ hp]
  have hlp : l / 2 ^ k < 2 ^ (64 - k) := by
    rw [Nat.div_lt_iff_lt_mul hp, Nat.mul_comm, e]; exact hl
  obtain ⟨c, hc⟩ := dvd64 k hk
  have hm : h * 2 ^ (64 - k) % 18446744073709551616 = 2 ^ (64 - k) * (h % c) := by
    rw [hc, Nat.mul_comm h, Nat.mul_mod_mul_left]
  have hc0 : 0 < c := by
    rcases Nat.eq_zero_or_pos c with h0 | h0
    · subst h0; simp at hc
    · exact h0
  have hlt : h % c < c := Nat.mod_lt _ hc0
  rw [Nat.add_mod, hm]
  have : l / 2 ^ k % 18446744073709551616 = l / 2 ^ k := Nat.mod_eq_of_lt (Nat.lt_of_le_of_lt (Nat.div_le_self _ _) hl)
  rw [this]
  apply Nat.mod_eq_of_lt
  calc l / 2 ^ k + 2 ^ (64 - k) * (h % c) < 2 ^ (64 - k) + 2 ^ (64 - k) * (h % c) := by omega
    _ = 2 ^ (64 - k) * (h % c + 1) := by rw [Nat.mul_add]; omega
    _ ≤ 2 ^ (64 - k) * c := Nat.mul_le_mul_left _ hlt
    _ = 18446744073709551616 := hc.symm
theorem sh_lost (h l k : Nat) (hk : k ≤ 64) :
    ((l * 2 ^ (64 - k)) % 18446744073709551616 = 0) ↔ (h * 18446744073709551616 + l) % 2 ^ k = 0 := by
  have e := pq k hk
  have hq : 0 < 2 ^ (64 - k) := Nat.two_pow_pos _
  have e1 : h * 18446744073709551616 + l = l + h * 2 ^ (64 - k) * 2 ^ k := by rw [← e]; rw [Nat.mul_assoc, Nat.mul_comm (2 ^ k)]; omega
  rw [e1, Nat.add_mul_mod_self_right, ← e, Nat.mul_mod_mul_right]
  constructor
  · intro h; rcases Nat.mul_eq_zero.1 h with h | h
    · exact h
    · omega
  · intro h; rw [h]; simp
theorem or_lo (h l k : Nat) (hk : k ≤ 64) (hl : l < 18446744073709551616) :
    bits .or .u64 ((l / 2 ^ k : Nat) : Int) ((h * 2 ^ (64 - k) % 18446744073709551616 : Nat) : Int) = ((l / 2 ^ k + h * 2 ^ (64 - k) % 18446744073709551616 : Nat) : Int) := by
  have hp : 0 < 2 ^ k := Nat.two_pow_pos k
  have e := pq k hk
  have hlp : l / 2 ^ k < 2 ^ (64 - k) := by
    rw [Nat.div_lt_iff_lt_mul hp, Nat.mul_comm, e]; exact hl
  have h1 : l / 2 ^ k < 18446744073709551616 := Nat.lt_of_le_of_lt (Nat.div_le_self _ _) hl
  have h2 : h * 2 ^ (64 - k) % 18446744073709551616 < 18446744073709551616 := Nat.mod_lt _ (by decide)
  obtain ⟨c, hc⟩ := dvd64 k hk
  rw [u64_or_nat _ _ h1 h2, Nat.or_comm, nat_join (64 - k) _ _ ?_ hlp, Nat.add_comm]
  rw [hc, Nat.mul_comm h, Nat.mul_mod_mul_left, Nat.mul_mod_right]

/-! What the walk of 'shift' leaves, by the size of k. -/
theorem shift_lt_hi (hi lo k : Int) (a : U64 hi) (b : U64 lo) : hi / 2 ^ k.toNat = hiP (nn hi lo / 2 ^ k.toNat) := by
  obtain ⟨h, rfl⟩ := Int.eq_ofNat_of_zero_le a.1
  obtain ⟨l, rfl⟩ := Int.eq_ofNat_of_zero_le b.1
  have := b.2
  rw [nn_nat]; unfold hiP
  rw [sh_hi h l _ (by omega)]; simp
theorem shift_lt_lo (hi lo k : Int) (a : U64 hi) (b : U64 lo) (h0 : 0 ≤ k) (h1 : k < 64) :
    bits .or .u64 (lo / 2 ^ k.toNat) (IntKind.u64.wrap (hi * 2 ^ (64 - k).toNat)) = loP (nn hi lo / 2 ^ k.toNat) := by
  obtain ⟨h, rfl⟩ := Int.eq_ofNat_of_zero_le a.1
  obtain ⟨l, rfl⟩ := Int.eq_ofNat_of_zero_le b.1
  have := b.2
  rw [nn_nat, toNat_sub64 k h0, IntKind.wrap_u64]; unfold loP
  rw [sh_lo h l _ (by omega) (by omega), ← or_lo h l _ (by omega) (by omega)]
  simp
theorem shift_lt_b (hi lo k : Int) (a : U64 hi) (b : U64 lo) (h0 : 0 ≤ k) (h1 : k < 64) :
    (IntKind.u64.wrap (lo * 2 ^ (64 - k).toNat) != 0) = lostB (nn hi lo) k.toNat := by
  obtain ⟨h, rfl⟩ := Int.eq_ofNat_of_zero_le a.1
  obtain ⟨l, rfl⟩ := Int.eq_ofNat_of_zero_le b.1
  rw [nn_nat, toNat_sub64 k h0, IntKind.wrap_u64]; unfold lostB
  have e : ((l : Int) * 2 ^ (64 - k.toNat)) % 18446744073709551616 = ((l * 2 ^ (64 - k.toNat) % 18446744073709551616 : Nat) : Int) := by simp
  have := sh_lost h l k.toNat (by omega)
  rw [e, Bool.eq_iff_iff]
  simp only [bne_iff_ne, decide_eq_true_eq, ne_eq]
  rw [← this]; omega
theorem pow_split (k : Nat) (h : 64 ≤ k) : 2 ^ k = 18446744073709551616 * 2 ^ (k - 64) := by
  rw [show (18446744073709551616 : Nat) = 2 ^ 64 from rfl, ← Nat.pow_add]; congr 1; omega
theorem shift_ge_lo (hi lo k : Int) (a : U64 hi) (b : U64 lo) (h0 : 64 ≤ k) : hi / 2 ^ (k - 64).toNat = loP (nn hi lo / 2 ^ k.toNat) := by
  obtain ⟨h, rfl⟩ := Int.eq_ofNat_of_zero_le a.1
  obtain ⟨l, rfl⟩ := Int.eq_ofNat_of_zero_le b.1
  have := b.2
  have := a.2
  rw [nn_nat]; unfold loP
  rw [pow_split _ (show 64 ≤ k.toNat by omega), ← Nat.div_div_eq_div_mul, show (h * 18446744073709551616 + l) / 18446744073709551616 = h by omega, Nat.mod_eq_of_lt (Nat.lt_of_le_of_lt (Nat.div_le_self _ _) (by omega)), show (k - 64).toNat = k.toNat - 64 by omega]
  simp
theorem shift_ge_hi (hi lo k : Int) (a : U64 hi) (b : U64 lo) (h0 : 64 ≤ k) : 0 = hiP (nn hi lo / 2 ^ k.toNat) := by
  obtain ⟨h, rfl⟩ := Int.eq_ofNat_of_zero_le a.1
  obtain ⟨l, rfl⟩ := Int.eq_ofNat_of_zero_le b.1
  have := b.2
  have := a.2
  rw [nn_nat]; unfold hiP
  rw [pow_split _ (show 64 ≤ k.toNat by omega), ← Nat.div_div_eq_div_mul, show (h * 18446744073709551616 + l) / 18446744073709551616 = h by omega, Nat.div_eq_of_lt (Nat.lt_of_le_of_lt (Nat.div_le_self _ _) (by omega))]
  rfl
theorem ge_mod (h l k : Nat) (hl : l < 18446744073709551616) (hk : 64 ≤ k) : (h * 18446744073709551616 + l) % 2 ^ k = 18446744073709551616 * (h % 2 ^ (k - 64)) + l := by
  rw [pow_split k hk, Nat.mod_mul, show (h * 18446744073709551616 + l) % 18446744073709551616 = l by omega, show (h * 18446744073709551616 + l) / 18446744073709551616 = h by omega]; omega
theorem shift_ge_b0 (hi k : Int) (a : U64 hi) (h0 : 64 ≤ k) (h1 : k < 128) :
    (IntKind.u64.wrap (hi * 2 ^ (128 - k).toNat) != 0) = lostB (nn hi 0) k.toNat := by
  obtain ⟨h, rfl⟩ := Int.eq_ofNat_of_zero_le a.1
  have e0 : nn (h : Int) 0 = h * 18446744073709551616 + 0 := nn_nat h 0
  rw [e0, IntKind.wrap_u64]; unfold lostB
  rw [ge_mod h 0 _ (by decide) (by omega)]
  have e : ((h : Int) * 2 ^ (128 - k).toNat) % 18446744073709551616 = ((h * 2 ^ (64 - (k.toNat - 64)) % 18446744073709551616 : Nat) : Int) := by
    rw [show (128 - k).toNat = 64 - (k.toNat - 64) by omega]; simp
  have := sh_lost 0 h (k.toNat - 64) (by omega)
  simp only [Nat.zero_mul, Nat.zero_add] at this
  rw [e, Bool.eq_iff_iff]
  simp only [bne_iff_ne, decide_eq_true_eq, ne_eq]
  constructor
  · intro hne hz; apply hne
    have : h % 2 ^ (k.toNat - 64) = 0 := by omega
    omega
  · intro hne hz; apply hne
    have h3 : h * 2 ^ (64 - (k.toNat - 64)) % 18446744073709551616 = 0 := by omega
    have := this.1 h3
    omega
theorem shift_ge_b1 (hi lo k : Int) (a : U64 hi) (b : U64 lo) (h0 : 64 ≤ k) (hl : (lo != 0) = true) : true = lostB (nn hi lo) k.toNat := by
  obtain ⟨h, rfl⟩ := Int.eq_ofNat_of_zero_le a.1
  obtain ⟨l, rfl⟩ := Int.eq_ofNat_of_zero_le b.1
  have := b.2
  have hl' : (l : Int) ≠ 0 := by simpa using hl
  rw [nn_nat]; unfold lostB
  rw [ge_mod h l _ (by omega) (by omega)]
  symm; simp only [decide_eq_true_eq]; omega
theorem nn_lt (hi lo : Int) (a : U64 hi) (b : U64 lo) : nn hi lo < 2 ^ 128 := by
  obtain ⟨a0, a1⟩ := a; obtain ⟨b0, b1⟩ := b; unfold nn; omega
theorem shift_big_q (hi lo k : Int) (a : U64 hi) (b : U64 lo) (h0 : 128 ≤ k) : nn hi lo / 2 ^ k.toNat = 0 := by
  have h1 : (2 : Nat) ^ 128 ≤ 2 ^ k.toNat := Nat.pow_le_pow_right (by decide) (by omega)
  exact Nat.div_eq_of_lt (Nat.lt_of_lt_of_le (nn_lt hi lo a b) h1)
theorem shift_big_b (hi lo k : Int) (a : U64 hi) (b : U64 lo) (h0 : 128 ≤ k) : (bits .or .u64 hi lo != 0) = lostB (nn hi lo) k.toNat := by
  have h1 : (2 : Nat) ^ 128 ≤ 2 ^ k.toNat := Nat.pow_le_pow_right (by decide) (by omega)
  unfold lostB
  rw [Nat.mod_eq_of_lt (Nat.lt_of_lt_of_le (nn_lt hi lo a b) h1)]
  obtain ⟨h, rfl⟩ := Int.eq_ofNat_of_zero_le a.1
  obtain ⟨l, rfl⟩ := Int.eq_ofNat_of_zero_le b.1
  have ha := a.2; have hb := b.2
  rw [nn_nat, u64_or_nat h l (by omega) (by omega), Bool.eq_iff_iff]
  simp only [bne_iff_ne, decide_eq_true_eq, ne_eq]
  constructor
  · intro hne hz; apply hne
    have h1 : h = 0 := by omega
    have h2 : l = 0 := by omega
    subst h1; subst h2; rfl
  · intro hne hz; apply hne
    have : h ||| l = 0 := by omega
    have := Nat.or_eq_zero_iff.1 this
    omega

theorem nn_zero (lo : Int) : nn 0 lo = lo.toNat := by unfold nn; simp
/-- Does rounding go from what was kept to the next number away from 0? -/
def stepsF (mode sign kept rest : Int) : Bool :=
  if rest = 0 then false else if mode = 0 then (rest == 3 || (rest == 2 && kept % 2 == 1)) else if mode = 2 then sign == 1 else if mode = 3 then sign == 0 else false
theorem and_one (x : Int) (a : U64 x) : bits .and .u64 x 1 = x % 2 := by
  obtain ⟨n, rfl⟩ := Int.eq_ofNat_of_zero_le a.1
  have := a.2
  have h := bits_and_u64_nat n 1 (by omega) (by decide)
  rw [nat_mask1] at h
  simpa using h
/-- What is kept of a number when the k lowest digits are cut; what the others are. -/
def cutK (n : Nat) (k : Int) : Int := if k ≤ 0 then ((n * 2 ^ (-k).toNat : Nat) : Int) else ((n / 2 ^ k.toNat : Nat) : Int)
def cutR (n : Nat) (more : Bool) (k : Int) : Int :=
  if k ≤ 0 then 0
  else if n / 2 ^ (k - 1).toNat % 2 = 1 then (if (lostB n (k - 1).toNat || more) = true then 3 else 2)
  else if (lostB n (k - 1).toNat || more) = true then 1 else 0
theorem cut_up (lo k : Int) (b : U64 lo) (h : k ≤ 0) (hl : lo.toNat * 2 ^ (-k).toNat < 18446744073709551616) : IntKind.u64.wrap (lo * 2 ^ (-k).toNat) = cutK (nn 0 lo) k := by
  obtain ⟨n, rfl⟩ := Int.eq_ofNat_of_zero_le b.1
  rw [nn_zero, IntKind.wrap_u64]; unfold cutK; rw [if_pos h]
  simp only [Int.toNat_natCast] at hl ⊢
  have e : ((n : Int) * 2 ^ (-k).toNat) = ((n * 2 ^ (-k).toNat : Nat) : Int) := by simp
  rw [e]; omega
theorem cut_half (n : Nat) (k : Int) (h : 0 < k) (hl : n / 2 ^ (k - 1).toNat < 18446744073709551616) : loP (n / 2 ^ (k - 1).toNat) / 2 = cutK n k := by
  unfold loP cutK; rw [if_neg (by omega), Nat.mod_eq_of_lt hl]
  have : 2 ^ k.toNat = 2 ^ (k - 1).toNat * 2 := by rw [show k.toNat = (k - 1).toNat + 1 by omega, Nat.pow_succ]
  rw [this, ← Nat.div_div_eq_div_mul]; omega
theorem loP_u (n : Nat) : U64 (loP n) := by unfold U64 loP; omega
theorem hiP_u (n : Nat) (h : n < 2 ^ 128) : U64 (hiP n) := by unfold U64 hiP; omega
theorem loP_odd (n : Nat) : (loP n % 2 == 1) = decide (n % 2 = 1) := by
  unfold loP; rw [Bool.eq_iff_iff]; simp; omega
theorem bl_nn (hi lo : Int) (a : U64 hi) (b : U64 lo) (h : ¬ hi = 0) : bl (nn hi lo) = 64 + bl hi.toNat := by
  obtain ⟨x, rfl⟩ := Int.eq_ofNat_of_zero_le a.1
  obtain ⟨l, rfl⟩ := Int.eq_ofNat_of_zero_le b.1
  have hb := b.2
  rw [nn_nat, bl_shr _ 64 (by omega), show (x * 18446744073709551616 + l) / 2 ^ 64 = x by omega]; rfl
end Go.Proofs.YtfdenbgmogojeaaDoor

/- Contracts of quadratref01's digit, Down, trim, Up: numbers as slices of binary digits; conditions: the slice holds the number's digits, and is not longer than a million. -/
import Derived.Test.YtfdenbgmogojeaaDoorRefL
import Derived.Laws.AppendOwnNone
namespace Go.Proofs.YtfdenbgmogojeaaDoor
open Go.RowKit

set_option maxHeartbeats 1000000 in
theorem digit_c (v : Value) (L M : Nat) (hL : L ≤ 1000000) (hM : M < 2 ^ L) (i : Nat) (hi : i ≤ 1000000) (w : World) (h : RN w v L M) :
    Calls Tryd.prog 87 #[v, .int .i64 (i : Int)] w fun e w' => e = .returned (.int .u8 (bd M i : Int)) ∧ w = w' := by
  obtain ⟨p, cap, rfl⟩ := h.slice
  by_cases c : i < L
  · obtain ⟨g, rfl, _, hcell⟩ := h.cells (by omega)
    have hc := hcell i c
    have hd0 := bd_le M i
    clear hcell h hM
    generalize bd M i = d at *
    go_enter Tryd.func87, Tryd.ntmps87
    go_wp2
    go_ret
    exact ⟨rfl, rfl⟩
  · rw [bd_beyond M L i hM (by omega)]
    clear h hM
    go_enter Tryd.func87, Tryd.ntmps87
    go_wp2
    go_ret
    exact ⟨rfl, rfl⟩

set_option maxRecDepth 100000 in
set_option maxHeartbeats 2000000 in
/-- Down: digits from n on. -/
theorem Down_c (v : Value) (L M : Nat) (hL : L ≤ 1000000) (n : Int) (t : Nat) (hn : n = (t : Int)) (ht : t ≤ 1000000) (w : World) (h : RN w v L M) :
    Calls Tryd.prog 85 #[v, .int .i64 n] w fun e w' => ∃ p cap, e = .returned (.slice p (L - t) cap) ∧ RN w' (.slice p (L - t) cap) (L - t) (M / 2 ^ t) ∧ Below w.heap.size w w' := by
  subst hn
  obtain ⟨p, cap, rfl⟩ := h.slice
  by_cases c : t < L
  · obtain ⟨g, rfl, hcap, hcell⟩ := h.cells (by omega)
    obtain ⟨i0, hi, hz0, hz1, hz2⟩ := info_parts info5
    have hx : (dg (M / 2 ^ t) (L - t)).length = L - t := dg_length _ _
    have hcx : ∀ (i : Nat) (u : Value), (dg (M / 2 ^ t) (L - t))[i]? = some u → w.cell? ⟨g, t + i, none⟩ = some u := fun i u hu => by
      rw [← dg_down, List.getElem?_drop] at hu
      have hlt : t + i < L := by
        have := (List.getElem?_eq_some_iff.1 hu).1
        rw [dg_length] at this; exact this
      rw [dg_at _ _ _ hlt] at hu
      rw [hcell _ hlt]; exact hu
    have hu := dg_u8 (M / 2 ^ t) (L - t)
    clear hcell h
    generalize hxs : dg (M / 2 ^ t) (L - t) = xs at *
    go_enter Tryd.func85, Tryd.ntmps85
    have hown : (w.alloc (.cells #[] 5)).ownsRow w.heap.size 5 1 (.slice (some ⟨w.heap.size, 0, none⟩) 0 0) 0 [] := (World.ownsRow_made w #[] 0 (Nat.le_refl _) (by decide) (by simp))
    go_wp2_with (at_builtin; refine wpList_append_own _ rfl _ _ 51 rfl w.heap.size 5 i0 (.int .u8 0) 1 1 Tryd.underlying51 hi hz0 hz1 hz2 rfl (by decide) _ _ _ rfl hown ⟨g, t, none⟩ (L - t) (cap - t) xs rfl (by rw [hx, Nat.mul_one]) ?c1 ?c2 ?c3 ?c4 ?c5 ?_)
    case c1 =>
      intro j' u hj'
      have := hcx j' u hj'
      have hlt := World.block_lt_of_cell? w _ this
      rw [Addr.add_lit, ((Below.refl w.heap.size w).alloc (Nat.le_refl _) (.cells #[] 5)).cell (p := ⟨g, t + j', none⟩) hlt]; exact this
    case c2 =>
      intro u hm
      obtain ⟨d, rfl⟩ := hu u hm
      rfl
    case c3 => unfold maxLen; omega
    case c4 => omega
    case c5 => simp
    intro v' w1 hown' hgrow _
    have hb' : Below w.heap.size w w1 := ((Below.refl w.heap.size w).alloc (Nat.le_refl _) _).grown hgrow (by simp) (fun k hk => (hown.lt k hk).1)
    clear hgrow hown
    go_wp2
    go_ret
    have hr : RN w1 v' (L - t) (M / 2 ^ t) := RN.of (by rw [hxs]; exact hown')
    obtain ⟨p', cap', rfl⟩ := hr.slice
    exact ⟨p', cap', rfl, hr, hb'⟩
  · have h0 : L - t = 0 := by omega
    rw [h0]
    go_enter Tryd.func85, Tryd.ntmps85
    go_wp2
    go_ret
    exact ⟨none, 0, rfl, RN.of (b := 0) (World.ownsRow_nil _ _ _ _), Below.refl _ _⟩

theorem RN.none0 {w : World} {p : Option Addr} {cap : Nat} {M : Nat} (h : RN w (.slice p 0 cap) 0 M) : (p = none ∧ cap = 0) ∨ ∃ g, p = some ⟨g, 0, none⟩ := by
  rcases h.2 with ⟨h, _⟩ | ⟨g, cap', cur, h1, _⟩
  · cases h; exact .inl ⟨rfl, rfl⟩
  · cases h1; exact .inr ⟨g, rfl⟩

set_option maxRecDepth 100000 in
set_option maxHeartbeats 2000000 in
/-- Up: a number times 2 to the t-th. -/
theorem Up_c (v : Value) (L M : Nat) (hL : L ≤ 1000000) (n : Int) (t : Nat) (hn : n = (t : Int)) (ht : t ≤ 1000000) (L' : Nat) (hL' : L' = if L = 0 then 0 else t + L) (h0 : L = 0 → M = 0) (w : World) (h : RN w v L M) :
    Calls Tryd.prog 55 #[v, .int .i64 n] w fun e w' => ∃ p cap, e = .returned (.slice p L' cap) ∧ RN w' (.slice p L' cap) L' (M * 2 ^ t) ∧ Below w.heap.size w w' := by
  subst hn
  obtain ⟨p, cap, rfl⟩ := h.slice
  by_cases c : L = 0
  · rw [if_pos c] at hL'
    have hM0 := h0 c
    subst c; subst hL'; subst hM0
    rw [Nat.zero_mul]
    clear h h0
    go_enter Tryd.func55, Tryd.ntmps55
    go_wp2
    go_ret
    exact ⟨none, 0, rfl, RN.of (b := 0) (World.ownsRow_nil _ _ _ _), Below.refl _ _⟩
  · rw [if_neg c] at hL'
    obtain ⟨g, rfl, hcap, hcell⟩ := h.cells (by omega)
    obtain ⟨i0, hi, hz0, hz1, hz2⟩ := info_parts info5
    have hx : (dg M L).length = L := dg_length _ _
    have hcx : ∀ (i : Nat) (u : Value), (dg M L)[i]? = some u → w.cell? ⟨g, i, none⟩ = some u := fun i u hu => by
      have hlt : i < L := by
        have := (List.getElem?_eq_some_iff.1 hu).1
        rw [dg_length] at this; exact this
      rw [dg_at _ _ _ hlt] at hu
      rw [hcell _ hlt]; exact hu
    have hu := dg_u8 M L
    have hup := dg_up M t L
    rw [← hL'] at hup
    have Hup := Lib.hid hup; clear hup
    have HL' := Lib.hid hL'; clear hL'
    clear hcell h h0
    generalize hxs : dg M L = xs at *
    have Hxs := Lib.hid hxs; clear hxs
    go_enter Tryd.func55, Tryd.ntmps55
    go_wp2_with (at_make; refine wpList_make_full _ rfl _ _ 51 rfl w.heap.size 5 i0 (.int .u8 0) 1 Tryd.underlying51 hi hz0 hz1 _ _ _ _ t rfl rfl rfl rfl ?b2 ?b3 ?b4 ?_)
    case b2 => rw [hz2]; omega
    case b3 => unfold maxLen; omega
    case b4 => omega
    intro w1 hown hgrow
    rw [toList_madeCells_one] at hown
    have hb1 : Below w.heap.size w w1 := (Below.refl w.heap.size w).grown hgrow (Nat.le_refl _) (by simp)
    have hsz := hb1.size
    go_wp2_with (at_builtin; refine wpList_append_own _ rfl _ _ 51 rfl w.heap.size 5 i0 (.int .u8 0) 1 1 Tryd.underlying51 hi hz0 hz1 hz2 rfl (by decide) _ _ _ rfl hown ⟨g, 0, none⟩ L cap xs rfl (by rw [hx, Nat.mul_one]) ?c1 ?c2 ?c3 ?c4 ?c5 ?_)
    case c1 =>
      intro j' u hj'
      have := hcx j' u hj'
      have hlt := World.block_lt_of_cell? w _ this
      rw [Addr.add_lit, Nat.zero_add, hb1.cell (p := ⟨g, j', none⟩) hlt]; exact this
    case c2 =>
      intro u hm
      obtain ⟨d, rfl⟩ := hu u hm
      rfl
    case c3 => unfold maxLen; omega
    case c4 => omega
    case c5 => omega
    intro v' w2 hown' hgrow' _
    have hb' : Below w.heap.size w w2 := hb1.grown hgrow' (by omega) (fun k hk => (hown.lt k hk).1)
    clear hgrow hown hgrow'
    go_wp2
    go_ret
    have hr : RN w2 v' L' (M * 2 ^ t) := RN.of (by rw [← Hup.out, HL'.out]; exact hown')
    obtain ⟨p', cap', rfl⟩ := hr.slice
    exact ⟨p', cap', rfl, hr, hb'⟩

set_option maxRecDepth 100000 in
set_option maxHeartbeats 2000000 in
/-- trim: without the zeros at the end. -/
theorem trim_c (v : Value) (L M : Nat) (hL : L ≤ 1000000) (hM : M < 2 ^ L) (w : World) (h : RN w v L M) :
    Calls Tryd.prog 101 #[v] w fun e w' => ∃ p cap, e = .returned (.slice p (bl M) cap) ∧ RN w' (.slice p (bl M) cap) (bl M) M ∧ Below w.heap.size w w' := by
  obtain ⟨i0, hi, hz0, hz1, hz2⟩ := info_parts info5
  obtain ⟨p, cap, rfl⟩ := h.slice
  have hown : (w.alloc (.cells #[] 5)).ownsRow w.heap.size 5 1 (.slice (some ⟨w.heap.size, 0, none⟩) 0 0) 0 [] := (World.ownsRow_made w #[] 0 (Nat.le_refl _) (by decide) (by simp))
  have hfin : ∀ (v' : Value) (w1 : World) (m : Nat), m = bl M → w1.ownsRow w.heap.size 5 1 v' (0 + m) ([] ++ dg M m) → (w.alloc (.cells #[] 5)).grownBy w1 (Value.slice (some ⟨w.heap.size, 0, none⟩) 0 0).ownBlock →
      ∃ p cap, v' = .slice p (bl M) cap ∧ RN w1 v' (bl M) M ∧ Below w.heap.size w w1 := by
    intro v' w1 m hm hown' hgrow
    subst hm
    rw [Nat.zero_add, List.nil_append] at hown'
    have hr : RN w1 v' (bl M) M := RN.of hown'
    obtain ⟨p', cap', rfl⟩ := hr.slice
    exact ⟨p', cap', rfl, hr, ((Below.refl w.heap.size w).alloc (Nat.le_refl _) _).grown hgrow (by simp) (fun k hk => (hown.lt k hk).1)⟩
  have Hf := Lib.hid hfin; clear hfin
  by_cases c : L = 0
  · subst c
    have hM0 : M = 0 := by simpa using hM
    subst hM0
    rcases h.none0 with ⟨rfl, rfl⟩ | ⟨g, rfl⟩
    · go_enter Tryd.func101, Tryd.ntmps101
      go_wp2
      go_loopw [3] (fun u wr => u = .int .i64 0 ∧ wr = w) (fun u _ => (intOf u).toNat)
      case atStart => exact ⟨rfl, rfl⟩
      case round =>
        obtain ⟨rfl, rfl⟩ := hrel
        go_wp2_with (at_builtin; refine wpList_append_own_none rfl _ _ 51 rfl wr.heap.size 5 i0 1 Tryd.underlying51 hi _ 0 [] rfl hown rfl ?_)
        go_wp2
        go_ret
        obtain ⟨p', cap', he, hr, hb⟩ := Hf.out _ _ 0 rfl hown ⟨rfl, rfl, rfl, Nat.le_refl _, fun _ _ _ => rfl⟩
        cases he
        exact ⟨_, _, rfl, hr, hb⟩
    · go_enter Tryd.func101, Tryd.ntmps101
      go_wp2
      go_loopw [3] (fun u wr => u = .int .i64 0 ∧ wr = w) (fun u _ => (intOf u).toNat)
      case atStart => exact ⟨rfl, rfl⟩
      case round =>
        obtain ⟨rfl, rfl⟩ := hrel
        go_wp2_with (at_builtin; refine wpList_append_own _ rfl _ _ 51 rfl wr.heap.size 5 i0 (.int .u8 0) 1 1 Tryd.underlying51 hi hz0 hz1 hz2 rfl (by decide) _ _ _ rfl hown ⟨g, 0, none⟩ 0 cap (dg 0 0) rfl (by rw [dg_length]) ?c1 ?c2 ?c3 ?c4 ?c5 ?_)
        case c1 =>
          intro j' u hj'
          have := (List.getElem?_eq_some_iff.1 hj').1
          rw [dg_length] at this; omega
        case c2 =>
          intro u hm
          obtain ⟨d, rfl⟩ := dg_u8 0 0 u hm
          rfl
        case c3 => unfold maxLen; omega
        case c4 => omega
        case c5 => simp
        intro v' w1 hown' hgrow _
        go_wp2
        go_ret
        obtain ⟨p', cap', he, hr, hb⟩ := Hf.out v' w1 0 rfl hown' hgrow
        subst he
        exact ⟨_, _, rfl, hr, hb⟩
  · obtain ⟨g, rfl, hcap, hcell⟩ := h.cells (by omega)
    have HC := Lib.hid hcell; clear hcell
    have HM := Lib.hid hM; clear hM
    clear h
    have HO := Lib.hid hown; clear hown
    go_enter Tryd.func101, Tryd.ntmps101
    go_wp2
    go_loopw [3] (fun u wr => ∃ n : Nat, n ≤ L ∧ M < 2 ^ n ∧ u = .int .i64 (n : Int) ∧ wr = w) (fun u _ => (intOf u).toNat)
    case atStart => exact ⟨L, Nat.le_refl _, HM.out, rfl, rfl⟩
    case round =>
      obtain ⟨n, hn, hM, rfl, rfl⟩ := hrel
      have Hn := Lib.hid hM; clear hM
      have hstep : 0 < n → bd M (n - 1) = 0 → M < 2 ^ (n - 1) := fun h1 h2 => by
        have hp := Nat.two_pow_pos (n - 1)
        have hM := Hn.out
        rw [show n = n - 1 + 1 by omega, Nat.pow_succ] at hM
        unfold bd at h2
        have h3 : M / 2 ^ (n - 1) < 2 := by rw [Nat.div_lt_iff_lt_mul hp]; omega
        exact (Nat.div_eq_zero_iff_lt hp).1 (by revert h2 h3; generalize M / 2 ^ (n - 1) = x; omega)
      have Hs := Lib.hid hstep; clear hstep
      have hfin : ∀ (h1 : 0 < n → bd M (n - 1) = 1), n = bl M := fun h1 => (bl_of_top M n Hn.out h1).symm
      have Hfi := Lib.hid hfin; clear hfin
      have hb1 := bd_le M (n - 1)
      by_cases c0 : n = 0
      · subst c0
        go_wp2_with (at_builtin; refine wpList_append_own _ rfl _ _ 51 rfl wr.heap.size 5 i0 (.int .u8 0) 1 1 Tryd.underlying51 hi hz0 hz1 hz2 rfl (by decide) _ _ _ rfl HO.out ⟨g, 0, none⟩ 0 cap (dg M 0) rfl (by rw [dg_length, Nat.mul_one]) ?c1 ?c2 ?c3 ?c4 ?c5 ?_)
        case c1 =>
          intro j' u hj'
          have hlt : j' < 0 := by
            have := (List.getElem?_eq_some_iff.1 hj').1
            rw [dg_length] at this; exact this
          rw [dg_at _ _ _ hlt] at hj'
          have h1 := HC.out j' (by omega)
          have h2 := World.block_lt_of_cell? wr _ h1
          rw [Addr.add_lit, Nat.zero_add, ((Below.refl wr.heap.size wr).alloc (Nat.le_refl _) (.cells #[] 5)).cell (p := ⟨g, j', none⟩) h2, h1]; exact hj'
        case c2 =>
          intro u hm
          obtain ⟨d, rfl⟩ := dg_u8 M 0 u hm
          rfl
        case c3 => unfold maxLen; omega
        case c4 => omega
        case c5 => simp
        intro v' w1 hown' hgrow _
        go_wp2
        go_ret
        obtain ⟨p', cap', he, hr, hb⟩ := Hf.out v' w1 (0) (Hfi.out (fun h => absurd h (by decide))) hown' hgrow
        subst he
        exact ⟨_, _, rfl, hr, hb⟩
      · have hc := HC.out (n - 1) (by omega)
        obtain ⟨m, rfl⟩ : ∃ m, n = m + 1 := ⟨n - 1, by omega⟩
        rw [Nat.add_sub_cancel] at hc hb1 Hs Hfi
        by_cases cd : bd M m = 0
        · rw [cd] at hc
          have hM' := Hs.out (by omega) cd
          go_wp2
          go_roundw
          case rel => exact ⟨m, by omega, hM', by simp, trivial⟩
          case measure => simp [intOf]
        · have hone : bd M m = 1 := by omega
          have Hone := Lib.hid hone; clear hone cd
          rw [Hone.out] at hc
          go_wp2_with (at_builtin; refine wpList_append_own _ rfl _ _ 51 rfl wr.heap.size 5 i0 (.int .u8 0) 1 1 Tryd.underlying51 hi hz0 hz1 hz2 rfl (by decide) _ _ _ rfl HO.out ⟨g, 0, none⟩ (m + 1) cap (dg M (m + 1)) rfl (by rw [dg_length, Nat.mul_one]) ?c1 ?c2 ?c3 ?c4 ?c5 ?_)
          case c1 =>
            intro j' u hj'
            have hlt : j' < (m + 1) := by
              have := (List.getElem?_eq_some_iff.1 hj').1
              rw [dg_length] at this; exact this
            rw [dg_at _ _ _ hlt] at hj'
            have h1 := HC.out j' (by omega)
            have h2 := World.block_lt_of_cell? wr _ h1
            rw [Addr.add_lit, Nat.zero_add, ((Below.refl wr.heap.size wr).alloc (Nat.le_refl _) (.cells #[] 5)).cell (p := ⟨g, j', none⟩) h2, h1]; exact hj'
          case c2 =>
            intro u hm
            obtain ⟨d, rfl⟩ := dg_u8 M (m + 1) u hm
            rfl
          case c3 => unfold maxLen; omega
          case c4 => omega
          case c5 => simp
          intro v' w1 hown' hgrow _
          go_wp2
          go_ret
          obtain ⟨p', cap', he, hr, hb⟩ := Hf.out v' w1 ((m + 1)) (Hfi.out (fun _ => Hone.out)) (by rw [Nat.zero_add, List.nil_append]; exact hown') hgrow
          subst he
          exact ⟨_, _, rfl, hr, hb⟩
end Go.Proofs.YtfdenbgmogojeaaDoor

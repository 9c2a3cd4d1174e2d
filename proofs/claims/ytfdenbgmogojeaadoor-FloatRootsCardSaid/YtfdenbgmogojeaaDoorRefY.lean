/- Contracts of quadratref01's Times and Divide: the product, the quotient and the rest of numbers above 0; conditions: the slices hold the numbers' digits, and are not longer than a thousand. -/
import Derived.Test.YtfdenbgmogojeaaDoorRefN
import Derived.Laws.OwnMore
namespace Go.Proofs.YtfdenbgmogojeaaDoor
open Go.RowKit

theorem bl_pow_lt (M k : Nat) (h : bl M ≤ k) : M < 2 ^ k := Nat.lt_of_lt_of_le (bl_lt M) (Nat.pow_le_pow_right (by decide) h)
theorem bl_of_lt (M k : Nat) (h : M < 2 ^ k) : bl M ≤ k := bl_mono_le M k h
theorem bl_prod (A C k : Nat) (hC : C < 2 ^ k) : bl (A * C) ≤ bl A + k := bl_mono_le _ _ (by
  rw [Nat.pow_add]
  exact Nat.mul_lt_mul_of_lt_of_le (bl_lt A) (Nat.le_of_lt hC) (Nat.two_pow_pos k))
theorem times_step (A B j : Nat) : (bd B j = 1 → A * (B % 2 ^ j) + A * 2 ^ j = A * (B % 2 ^ (j + 1))) ∧ (bd B j = 0 → A * (B % 2 ^ j) = A * (B % 2 ^ (j + 1))) := by
  have h := Nat.mod_pow_succ (b := 2) (k := j) (x := B)
  unfold bd
  constructor
  · intro q; rw [h, q, Nat.mul_one, Nat.mul_add]
  · intro q; rw [h, q, Nat.mul_zero, Nat.add_zero]

set_option maxRecDepth 100000 in
set_option maxHeartbeats 4000000 in
theorem Times_c (u v : Value) (A B : Nat) (hA0 : 0 < A) (hB0 : 0 < B) (hA : bl A ≤ 1000) (hB : bl B ≤ 1000) (w : World) (ha : RN w u (bl A) A) (hb : RN w v (bl B) B) :
    Calls Tryd.prog 64 #[u, v] w fun e w' => ∃ p cap, e = .returned (.slice p (bl (A * B)) cap) ∧ RN w' (.slice p (bl (A * B)) cap) (bl (A * B)) (A * B) ∧ Below w.heap.size w w' := by
  obtain ⟨pa, ca, rfl⟩ := ha.slice
  obtain ⟨pb, cb, rfl⟩ := hb.slice
  have hA1 := bl_pos A (by omega)
  have hB1 := bl_pos B (by omega)
  obtain ⟨g, rfl, hcb, hcell⟩ := hb.cells (by omega)
  have Hc := Lib.hid hcell; clear hcell
  have UP := Lib.hid (fun (i : Nat) (hi : i ≤ 1000) (w' : World) (hw : Below w.heap.size w w') => Up_c (.slice pa (bl A) ca) (bl A) A (by omega) i i rfl (by omega) (i + bl A) (by rw [if_neg (by omega)]) (by omega) w' (ha.keep hw))
  have PL := Lib.hid (fun (i : Nat) (hi : i ≤ 1000) (p1 p2 : Option Addr) (c1 c2 M : Nat) (hM : bl M ≤ 3000) (w' : World) (h1 : RN w' (.slice p1 (bl M) c1) (bl M) M) (h2 : RN w' (.slice p2 (i + bl A) c2) (i + bl A) (A * 2 ^ i)) =>
    Plus_c _ _ (bl M) (i + bl A) M (A * 2 ^ i) (by omega) (by omega) (bl_lt M) (by rw [Nat.pow_add, Nat.mul_comm]; exact Nat.mul_lt_mul_of_pos_left (bl_lt A) (Nat.two_pow_pos i)) w' h1 h2)
  have BB := Lib.hid (fun j => bl_prod A (B % 2 ^ j) (bl B) (Nat.lt_of_le_of_lt (Nat.mod_le _ _) (bl_lt B)))
  have TS := Lib.hid (fun j => times_step A B j)
  have EN := Lib.hid (show B % 2 ^ bl B = B from Nat.mod_eq_of_lt (bl_lt B))
  clear ha hb
  obtain ⟨LB, hLB⟩ : ∃ L, L = bl B := ⟨_, rfl⟩
  obtain ⟨LA, hLA⟩ : ∃ L, L = bl A := ⟨_, rfl⟩
  rw [← hLB] at Hc BB EN hB hB1 hcb ⊢
  rw [← hLA] at UP PL BB hA hA1 ⊢
  have HLA := Lib.hid hLA; clear hLA
  have HLB := Lib.hid hLB; clear hLB
  go_enter Tryd.func64, Tryd.ntmps64
  go_wp2
  go_loopw [5, 6] (fun o x wr => ∃ (j : Nat) (p : Option Addr) (c M : Nat), j ≤ LB ∧ x = .int .i64 (j : Int) ∧ o = .slice p (bl M) c ∧ M = A * (B % 2 ^ j) ∧ RN wr (.slice p (bl M) c) (bl M) M ∧ Below w.heap.size w wr) (fun _ x _ => LB - (intOf x).toNat)
  case atStart => exact ⟨0, none, 0, 0, by omega, rfl, rfl, by rw [Nat.pow_zero, Nat.mod_one, Nat.mul_zero], RN.of (b := 0) (World.ownsRow_nil _ _ _ _), Below.refl _ _⟩
  case round =>
    obtain ⟨j, p, c, M, hj, rfl, rfl, hM, hr, hbe⟩ := hrel
    have hMb : bl M ≤ 2000 := by rw [hM]; have := BB.out j; omega
    have HM := Lib.hid hM; clear hM
    by_cases hlt : j < LB
    · have hc := ck hbe (Hc.out j hlt)
      have hts := TS.out j
      have hbd := bd_le B j
      rw [← HM.out] at hts
      by_cases c1 : bd B j = 1
      · have hn := Lib.hid (hts.1 c1)
        rw [c1] at hc
        clear hts hbd c1
        go_wp2_with fail
        refine (UP.out j (by omega) _ hbe).mono ?_
        rintro e w1 ⟨p1, c1, rfl, h1, hb⟩
        have hr := hr.keep hb
        have hbe := bt hbe hb
        go_wp2_with fail
        refine (PL.out j (by omega) _ _ _ _ M (by omega) _ hr h1).mono ?_
        rw [hn.out]
        rintro e w2 ⟨p2, c2, rfl, h2, hb⟩
        have hbe := bt hbe hb
        go_wp2_with fail
        go_roundw
        case rel => exact ⟨j + 1, p2, c2, _, by omega, by go_num, rfl, rfl, h2, hbe⟩
        case measure => simp [intOf]; omega
      · have c0 : bd B j = 0 := by omega
        have hn := Lib.hid (hts.2 c0)
        rw [c0] at hc
        clear hts hbd c1 c0
        go_wp2_with fail
        go_roundw
        case rel => exact ⟨j + 1, p, c, M, by omega, by go_num, rfl, hn.out, hr, hbe⟩
        case measure => simp [intOf]; omega
    · obtain rfl : j = LB := by omega
      clear hlt
      have hme : M = A * B := by rw [HM.out, EN.out]
      subst hme
      go_wp2_with fail
      go_ret
      exact ⟨p, c, rfl, hr, hbe⟩

set_option maxRecDepth 100000 in
set_option maxHeartbeats 2000000 in
/-- trim gives new memory. -/
theorem trim_f (v : Value) (L M : Nat) (hL : L ≤ 1000000) (hM : M < 2 ^ L) (w : World) (h : RN w v L M) :
    Calls Tryd.prog 101 #[v] w fun e w' => ∃ p cap, e = .returned (.slice p (bl M) cap) ∧ w'.ownsRow w.heap.size 5 1 (.slice p (bl M) cap) (bl M) (dg M (bl M)) ∧ Below w.heap.size w w' := by
  obtain ⟨i0, hi, hz0, hz1, hz2⟩ := info_parts info5
  obtain ⟨p, cap, rfl⟩ := h.slice
  have hown : (w.alloc (.cells #[] 5)).ownsRow w.heap.size 5 1 (.slice (some ⟨w.heap.size, 0, none⟩) 0 0) 0 [] := (World.ownsRow_made w #[] 0 (Nat.le_refl _) (by decide) (by simp))
  have hfin : ∀ (v' : Value) (w1 : World) (m : Nat), m = bl M → w1.ownsRow w.heap.size 5 1 v' (0 + m) ([] ++ dg M m) → (w.alloc (.cells #[] 5)).grownBy w1 (Value.slice (some ⟨w.heap.size, 0, none⟩) 0 0).ownBlock →
      ∃ p cap, v' = .slice p (bl M) cap ∧ w1.ownsRow w.heap.size 5 1 v' (bl M) (dg M (bl M)) ∧ Below w.heap.size w w1 := by
    intro v' w1 m hm hown' hgrow
    subst hm
    rw [Nat.zero_add, List.nil_append] at hown'
    have hr : RN w1 v' (bl M) M := RN.of hown'
    obtain ⟨p', cap', rfl⟩ := hr.slice
    exact ⟨p', cap', rfl, hown', ((Below.refl w.heap.size w).alloc (Nat.le_refl _) _).grown hgrow (by simp) (fun k hk => (hown.lt k hk).1)⟩
  have Hf := Lib.hid hfin; clear hfin
  by_cases c : L = 0
  · subst c
    have hM0 : M = 0 := by simpa using hM
    subst hM0
    rcases h.none0 with ⟨rfl, rfl⟩ | ⟨g, rfl⟩
    · go_enter Tryd.func101, Tryd.ntmps101
      go_wp2
      go_loopw [3] (fun u wr => u = .int .i64 0 ∧ wr = w) (fun u _ => (intOf u).toNat)
      case atStart => exact ⟨rfl, rfl⟩
      case round =>
        obtain ⟨rfl, rfl⟩ := hrel
        go_wp2_with (at_builtin; refine wpList_append_own_none rfl _ _ 51 rfl wr.heap.size 5 i0 1 Tryd.underlying51 hi _ 0 [] rfl hown rfl ?_)
        go_wp2
        go_ret
        obtain ⟨p', cap', he, hr, hb⟩ := Hf.out _ _ 0 rfl hown ⟨rfl, rfl, rfl, Nat.le_refl _, fun _ _ _ => rfl⟩
        cases he
        exact ⟨_, _, rfl, hr, hb⟩
    · go_enter Tryd.func101, Tryd.ntmps101
      go_wp2
      go_loopw [3] (fun u wr => u = .int .i64 0 ∧ wr = w) (fun u _ => (intOf u).toNat)
      case atStart => exact ⟨rfl, rfl⟩
      case round =>
        obtain ⟨rfl, rfl⟩ := hrel
        go_wp2_with (at_builtin; refine wpList_append_own _ rfl _ _ 51 rfl wr.heap.size 5 i0 (.int .u8 0) 1 1 Tryd.underlying51 hi hz0 hz1 hz2 rfl (by decide) _ _ _ rfl hown ⟨g, 0, none⟩ 0 cap (dg 0 0) rfl (by rw [dg_length]) ?c1 ?c2 ?c3 ?c4 ?c5 ?_)
        case c1 =>
          intro j' u hj'
          have := (List.getElem?_eq_some_iff.1 hj').1
          rw [dg_length] at this; omega
        case c2 =>
          intro u hm
          obtain ⟨d, rfl⟩ := dg_u8 0 0 u hm
          rfl
        case c3 => unfold maxLen; omega
        case c4 => omega
        case c5 => simp
        intro v' w1 hown' hgrow _
        go_wp2
        go_ret
        obtain ⟨p', cap', he, hr, hb⟩ := Hf.out v' w1 0 rfl hown' hgrow
        subst he
        exact ⟨_, _, rfl, hr, hb⟩
  · obtain ⟨g, rfl, hcap, hcell⟩ := h.cells (by omega)
    have HC := Lib.hid hcell; clear hcell
    have HM := Lib.hid hM; clear hM
    clear h
    have HO := Lib.hid hown; clear hown
    go_enter Tryd.func101, Tryd.ntmps101
    go_wp2
    go_loopw [3] (fun u wr => ∃ n : Nat, n ≤ L ∧ M < 2 ^ n ∧ u = .int .i64 (n : Int) ∧ wr = w) (fun u _ => (intOf u).toNat)
    case atStart => exact ⟨L, Nat.le_refl _, HM.out, rfl, rfl⟩
    case round =>
      obtain ⟨n, hn, hM, rfl, rfl⟩ := hrel
      have Hn := Lib.hid hM; clear hM
      have hstep : 0 < n → bd M (n - 1) = 0 → M < 2 ^ (n - 1) := fun h1 h2 => by
        have hp := Nat.two_pow_pos (n - 1)
        have hM := Hn.out
        rw [show n = n - 1 + 1 by omega, Nat.pow_succ] at hM
        unfold bd at h2
        have h3 : M / 2 ^ (n - 1) < 2 := by rw [Nat.div_lt_iff_lt_mul hp]; omega
        exact (Nat.div_eq_zero_iff_lt hp).1 (by revert h2 h3; generalize M / 2 ^ (n - 1) = x; omega)
      have Hs := Lib.hid hstep; clear hstep
      have hfin : ∀ (h1 : 0 < n → bd M (n - 1) = 1), n = bl M := fun h1 => (bl_of_top M n Hn.out h1).symm
      have Hfi := Lib.hid hfin; clear hfin
      have hb1 := bd_le M (n - 1)
      by_cases c0 : n = 0
      · subst c0
        go_wp2_with (at_builtin; refine wpList_append_own _ rfl _ _ 51 rfl wr.heap.size 5 i0 (.int .u8 0) 1 1 Tryd.underlying51 hi hz0 hz1 hz2 rfl (by decide) _ _ _ rfl HO.out ⟨g, 0, none⟩ 0 cap (dg M 0) rfl (by rw [dg_length, Nat.mul_one]) ?c1 ?c2 ?c3 ?c4 ?c5 ?_)
        case c1 =>
          intro j' u hj'
          have hlt : j' < 0 := by
            have := (List.getElem?_eq_some_iff.1 hj').1
            rw [dg_length] at this; exact this
          rw [dg_at _ _ _ hlt] at hj'
          have h1 := HC.out j' (by omega)
          have h2 := World.block_lt_of_cell? wr _ h1
          rw [Addr.add_lit, Nat.zero_add, ((Below.refl wr.heap.size wr).alloc (Nat.le_refl _) (.cells #[] 5)).cell (p := ⟨g, j', none⟩) h2, h1]; exact hj'
        case c2 =>
          intro u hm
          obtain ⟨d, rfl⟩ := dg_u8 M 0 u hm
          rfl
        case c3 => unfold maxLen; omega
        case c4 => omega
        case c5 => simp
        intro v' w1 hown' hgrow _
        go_wp2
        go_ret
        obtain ⟨p', cap', he, hr, hb⟩ := Hf.out v' w1 (0) (Hfi.out (fun h => absurd h (by decide))) hown' hgrow
        subst he
        exact ⟨_, _, rfl, hr, hb⟩
      · have hc := HC.out (n - 1) (by omega)
        obtain ⟨m, rfl⟩ : ∃ m, n = m + 1 := ⟨n - 1, by omega⟩
        rw [Nat.add_sub_cancel] at hc hb1 Hs Hfi
        by_cases cd : bd M m = 0
        · rw [cd] at hc
          have hM' := Hs.out (by omega) cd
          go_wp2
          go_roundw
          case rel => exact ⟨m, by omega, hM', by simp, trivial⟩
          case measure => simp [intOf]
        · have hone : bd M m = 1 := by omega
          have Hone := Lib.hid hone; clear hone cd
          rw [Hone.out] at hc
          go_wp2_with (at_builtin; refine wpList_append_own _ rfl _ _ 51 rfl wr.heap.size 5 i0 (.int .u8 0) 1 1 Tryd.underlying51 hi hz0 hz1 hz2 rfl (by decide) _ _ _ rfl HO.out ⟨g, 0, none⟩ (m + 1) cap (dg M (m + 1)) rfl (by rw [dg_length, Nat.mul_one]) ?c1 ?c2 ?c3 ?c4 ?c5 ?_)
          case c1 =>
            intro j' u hj'
            have hlt : j' < (m + 1) := by
              have := (List.getElem?_eq_some_iff.1 hj').1
              rw [dg_length] at this; exact this
            rw [dg_at _ _ _ hlt] at hj'
            have h1 := HC.out j' (by omega)
            have h2 := World.block_lt_of_cell? wr _ h1
            rw [Addr.add_lit, Nat.zero_add, ((Below.refl wr.heap.size wr).alloc (Nat.le_refl _) (.cells #[] 5)).cell (p := ⟨g, j', none⟩) h2, h1]; exact hj'
          case c2 =>
            intro u hm
            obtain ⟨d, rfl⟩ := dg_u8 M (m + 1) u hm
            rfl
          case c3 => unfold maxLen; omega
          case c4 => omega
          case c5 => simp
          intro v' w1 hown' hgrow _
          go_wp2
          go_ret
          obtain ⟨p', cap', he, hr, hb⟩ := Hf.out v' w1 ((m + 1)) (Hfi.out (fun _ => Hone.out)) (by rw [Nat.zero_add, List.nil_append]; exact hown') hgrow
          subst he
          exact ⟨_, _, rfl, hr, hb⟩

set_option maxRecDepth 100000 in
set_option maxHeartbeats 4000000 in
theorem Minus_f (u v : Value) (LA LB A B : Nat) (hLA : LA ≤ 100000) (hLB : LB ≤ 100000) (hA : A < 2 ^ LA) (hB : B < 2 ^ LB) (hBA : B ≤ A) (w : World) (ha : RN w u LA A) (hb : RN w v LB B) :
    Calls Tryd.prog 58 #[u, v] w fun e w' => ∃ p cap, e = .returned (.slice p (bl (A - B)) cap) ∧ w'.ownsRow w.heap.size 5 1 (.slice p (bl (A - B)) cap) (bl (A - B)) (dg (A - B) (bl (A - B))) ∧ Below w.heap.size w w' := by
  obtain ⟨i0, hi, hz0, hz1, hz2⟩ := info_parts info5
  obtain ⟨pa, ca, rfl⟩ := ha.slice
  obtain ⟨pb, cb, rfl⟩ := hb.slice
  obtain ⟨Bs, hB0⟩ : ∃ Bs, Bs = w.heap.size := ⟨_, rfl⟩
  have D1 := Lib.hid (fun (i : Nat) (hi : i ≤ 1000000) (w' : World) (hw : Below w.heap.size w w') => digit_c _ LA A (by omega) hA i hi w' (ha.keep hw))
  have D2 := Lib.hid (fun (i : Nat) (hi : i ≤ 1000000) (w' : World) (hw : Below w.heap.size w w') => digit_c _ LB B (by omega) hB i hi w' (hb.keep hw))
  rw [← hB0] at D1 D2 ⊢
  have HB := Lib.hid hB0; clear hB0
  have Hlt := Lib.hid (show A - B < 2 ^ LA by omega)
  have HBA := Lib.hid hBA
  clear ha hb hA hB hBA
  go_enter Tryd.func58, Tryd.ntmps58
  go_wp2
  go_loopw [5, 6, 7] (fun o c x wr => ∃ j : Nat, j ≤ LA ∧ c = .int .u8 (owe A B j : Int) ∧ x = .int .i64 (j : Int) ∧ wr.ownsRow Bs 5 1 o j (dg (A - B) j) ∧ Below Bs w wr) (fun _ _ x _ => LA - (intOf x).toNat)
  case atStart => exact ⟨0, by omega, by rw [owe_zero]; rfl, rfl, World.ownsRow_nil _ _ _ _, Below.refl _ _⟩
  case round =>
    obtain ⟨j, hj, rfl, rfl, hown, hbe⟩ := hrel
    have hsz : Bs ≤ wr.heap.size := by have := hbe.size; have := HB.out; omega
    by_cases cont : j < LA
    · have h1 := Lib.hid (D1.out j (by omega) wr hbe)
      have h2 := Lib.hid (D2.out j (by omega) wr hbe)
      have hcs := Lib.hid (owe_succ A B j)
      have hds := Lib.hid (diff_digit A B j HBA.out)
      have ba := bd_le A j
      have bb := bd_le B j
      have bc := owe_le A B j
      generalize bd A j = a at *
      generalize bd B j = b at *
      generalize owe A B j = c at *
      have e1 : ((2 + a - b - c : Nat) : Int) = 2 + (a : Int) - b - c := by omega
      have e2 : 0 ≤ 2 + (a : Int) - b - c ∧ 2 + (a : Int) - b - c ≤ 3 := by omega
      have E1 := Lib.hid e1; clear e1
      obtain ⟨e20, e21⟩ := e2
      go_wp2_with fail
      refine h1.out.mono ?_
      rintro e w' ⟨rfl, rfl⟩
      go_wp2_with fail
      refine h2.out.mono ?_
      rintro e w' ⟨rfl, rfl⟩
      go_wp2_with (at_builtin; refine wpList_append_own _ rfl _ _ 51 rfl Bs 5 i0 (.int .u8 0) 1 1 Tryd.underlying51 hi hz0 hz1 hz2 rfl (by decide) _ _ _ rfl (hown.alloc _) ⟨wr.heap.size, 0, none⟩ 1 1 [.int .u8 ((2 + (a : Int) - b - c) % 2)] rfl rfl ?c1 ?c2 ?c3 ?c4 ?c5 ?_)
      case c1 =>
        intro j' u hj'
        match j', hj' with
        | 0, hj' => simp at hj'; subst hj'; simp [Addr.add]
      case c2 => intro u hu; simp at hu; subst hu; rfl
      case c3 => unfold maxLen; omega
      case c4 => omega
      case c5 => simp; omega
      intro v' w1 hown' hgrow _
      have hd : dg (A - B) j ++ [.int .u8 ((2 + (a : Int) - b - c) % 2)] = dg (A - B) (j + 1) := by
        rw [dg_succ]
        have := hds.out
        unfold bd at this
        rw [← this]; have := E1.out; simp only [Int.natCast_emod, this]; rfl
      rw [hd] at hown'
      have hb' : Below Bs w w1 := (hbe.alloc hsz _).grown hgrow (by simp; omega) (fun k hk => (hown.lt k hk).1)
      clear hgrow hown hd
      go_wp2
      go_roundw
      case rel => exact ⟨j + 1, by omega, by rw [hcs.out]; have := E1.out; have h4 : (((1 - (2 + a - b - c) / 2 : Nat)) : Int) = 1 - (2 + (a : Int) - b - c) / 2 := (by omega); rw [h4], by simp, hown', hb'⟩
      case measure => simp [intOf]; omega
    · have hjL : j = LA := by omega
      subst hjL
      clear cont
      obtain ⟨p, cap, hv⟩ := (RN.of hown).slice
      subst hv
      have ht := Lib.hid (trim_f (.slice p j cap) j (A - B) (by omega) Hlt.out wr (RN.of hown))
      clear hown
      go_wp2_with fail
      refine ht.out.mono ?_
      rintro e w1 ⟨p', cap', rfl, hr, hb⟩
      go_wp2_with fail
      go_ret
      have hBB := HB.out
      subst hBB
      exact ⟨p', cap', rfl, own_base hr hsz, bt hbe hb⟩


/-- A digit more of the quotient. -/
theorem div_step (A B t : Nat) (hB : 0 < B) :
    (A / 2 ^ (t + 1) % B * 2 + bd A t < B → A / 2 ^ t / B = A / 2 ^ (t + 1) / B * 2 ∧ A / 2 ^ t % B = A / 2 ^ (t + 1) % B * 2 + bd A t) ∧
    (¬ A / 2 ^ (t + 1) % B * 2 + bd A t < B → A / 2 ^ t / B = A / 2 ^ (t + 1) / B * 2 + 1 ∧ A / 2 ^ t % B = A / 2 ^ (t + 1) % B * 2 + bd A t - B) := by
  have h1 : A / 2 ^ t = A / 2 ^ (t + 1) * 2 + bd A t := by
    have h : A / 2 ^ (t + 1) = A / 2 ^ t / 2 := by rw [Nat.pow_succ, Nat.div_div_eq_div_mul]
    rw [h]; unfold bd; omega
  have h2 := Nat.div_add_mod (A / 2 ^ (t + 1)) B
  have h3 := Nat.mod_lt (A / 2 ^ (t + 1)) hB
  have h4 := bd_le A t
  rw [h1]
  generalize A / 2 ^ (t + 1) / B = Q at *
  generalize A / 2 ^ (t + 1) % B = R at *
  generalize A / 2 ^ (t + 1) = a at *
  generalize bd A t = d at *
  have h5 : a * 2 + d = B * (Q * 2) + (R * 2 + d) := by
    rw [← h2, Nat.add_mul, Nat.mul_assoc]; omega
  constructor
  · intro c
    rw [h5, Nat.mul_add_div hB, Nat.div_eq_of_lt c, Nat.add_zero, Nat.mul_add_mod, Nat.mod_eq_of_lt c]
    exact ⟨rfl, rfl⟩
  · intro c
    have h6 : a * 2 + d = B * (Q * 2 + 1) + (R * 2 + d - B) := by
      rw [h5, Nat.mul_add, Nat.mul_one]; omega
    have c' : R * 2 + d - B < B := by omega
    rw [h6, Nat.mul_add_div hB, Nat.div_eq_of_lt c', Nat.add_zero, Nat.mul_add_mod, Nat.mod_eq_of_lt c']
    exact ⟨rfl, rfl⟩
theorem dg_cons (R L d : Nat) (hd : d ≤ 1) : [.int .u8 (d : Int)] ++ dg R L = dg (R * 2 + d) (1 + L) := by
  apply List.ext_getElem?
  intro i
  rcases i with _ | i
  · rw [dg_at _ _ _ (by omega)]
    have e : (R * 2 + d) / 2 ^ 0 % 2 = d := by rw [Nat.pow_zero, Nat.div_one]; omega
    rw [e]; rfl
  · rw [show [.int .u8 (d : Int)] ++ dg R L = .int .u8 (d : Int) :: dg R L from rfl, List.getElem?_cons_succ]
    by_cases h : i < L
    · rw [dg_at _ _ _ h, dg_at _ _ _ (by omega)]
      have e : (R * 2 + d) / 2 ^ (i + 1) % 2 = R / 2 ^ i % 2 := by
        rw [Nat.pow_succ, Nat.mul_comm (2 ^ i), ← Nat.div_div_eq_div_mul, show (R * 2 + d) / 2 = R by omega]
      rw [e]
    · rw [List.getElem?_eq_none (by rw [dg_length]; omega), List.getElem?_eq_none (by rw [dg_length]; omega)]
theorem dg_set1 (Q t L : Nat) (ht : t < L) : (dg (Q * 2 ^ (t + 1)) L).set t (.int .u8 1) = dg ((Q * 2 + 1) * 2 ^ t) L := by
  apply List.ext_getElem?
  intro i
  have hp := Nat.two_pow_pos t
  by_cases h : i < L
  · rw [List.getElem?_set, dg_length]
    by_cases c : t = i
    · subst c
      rw [if_pos rfl, if_pos ht, dg_at _ _ _ ht]
      have e : (Q * 2 + 1) * 2 ^ t / 2 ^ t % 2 = 1 := by rw [Nat.mul_div_cancel _ hp]; omega
      rw [e]; rfl
    · rw [if_neg c, dg_at _ _ _ h, dg_at _ _ _ h]
      have e : Q * 2 ^ (t + 1) / 2 ^ i % 2 = (Q * 2 + 1) * 2 ^ t / 2 ^ i % 2 := by
        rw [show Q * 2 ^ (t + 1) = Q * 2 * 2 ^ t by rw [Nat.pow_succ, Nat.mul_assoc, Nat.mul_comm 2]]
        rcases Nat.lt_or_ge i t with q | q
        · obtain ⟨k, rfl⟩ : ∃ k, t = i + 1 + k := ⟨t - i - 1, by omega⟩
          have e1 : ∀ x : Nat, x * 2 ^ (i + 1 + k) / 2 ^ i % 2 = 0 := fun x => by
            rw [show x * 2 ^ (i + 1 + k) = x * 2 ^ k * 2 * 2 ^ i by rw [show i + 1 + k = k + 1 + i by omega, Nat.pow_add, Nat.pow_succ, ← Nat.mul_assoc, ← Nat.mul_assoc], Nat.mul_div_cancel _ (Nat.two_pow_pos i)]
            omega
          rw [e1, e1]
        · obtain ⟨k, rfl⟩ : ∃ k, i = t + 1 + k := ⟨i - t - 1, by omega⟩
          rw [Nat.add_assoc, Nat.pow_add, ← Nat.div_div_eq_div_mul, ← Nat.div_div_eq_div_mul, Nat.mul_div_cancel _ hp, Nat.mul_div_cancel _ hp, Nat.add_comm 1 k, Nat.pow_succ, Nat.mul_comm (2 ^ k), ← Nat.div_div_eq_div_mul, ← Nat.div_div_eq_div_mul, show Q * 2 / 2 = Q by omega, show (Q * 2 + 1) / 2 = Q by omega]
      rw [e]
  · rw [List.getElem?_eq_none (by rw [List.length_set, dg_length]; omega), List.getElem?_eq_none (by rw [dg_length]; omega)]
theorem own_one (w : World) (x : Value) : (w.alloc (.cells #[x] 5)).ownsRow w.heap.size 5 1 (.slice (some ⟨w.heap.size, 0, none⟩) 1 1) 1 [x] :=
  ⟨rfl, .inr ⟨w.heap.size, 1, #[x], rfl, Nat.le_refl _, heap_alloc_new w _, Nat.le_refl _, by decide, rfl, rfl⟩⟩

/-- The quotient's row, the rest, and the memory behind them. -/
def DV (w wr : World) (B2 LA : Nat) (p : Option Addr) (c Q R j : Nat) : Prop :=
  wr.ownsRow B2 5 1 (.slice p (bl R) c) (bl R) (dg R (bl R)) ∧ wr.ownsRow w.heap.size 5 1 (.slice (some ⟨w.heap.size, 0, none⟩) LA LA) LA (dg (Q * 2 ^ j) LA) ∧ Below w.heap.size w wr ∧ B2 ≤ wr.heap.size

set_option maxRecDepth 100000 in
set_option maxHeartbeats 8000000 in
theorem Divide_c (u v : Value) (A B : Nat) (hA0 : 0 < A) (hB0 : 0 < B) (hA : bl A ≤ 1000) (hB : bl B ≤ 1000) (w : World) (ha : RN w u (bl A) A) (hb : RN w v (bl B) B) :
    Calls Tryd.prog 66 #[u, v] w fun e w' => ∃ p1 c1 p2 c2, e = .returned (.tuple #[.slice p1 (bl (A / B)) c1, .slice p2 (bl (A % B)) c2]) ∧ RN w' (.slice p1 (bl (A / B)) c1) (bl (A / B)) (A / B) ∧ RN w' (.slice p2 (bl (A % B)) c2) (bl (A % B)) (A % B) ∧ Below w.heap.size w w' := by
  obtain ⟨i0, hi, hz0, hz1, hz2⟩ := info_parts info5
  obtain ⟨pa, ca, rfl⟩ := ha.slice
  obtain ⟨pb, cb, rfl⟩ := hb.slice
  have hA1 := bl_pos A (by omega)
  obtain ⟨g, rfl, hca, hcell⟩ := ha.cells (by omega)
  have Hc := Lib.hid hcell; clear hcell
  have CMP := Lib.hid (fun (p : Option Addr) (c X : Nat) (hX : bl X ≤ 2000) (w' : World) (hw : Below w.heap.size w w') (h1 : RN w' (.slice p (bl X) c) (bl X) X) => Cmp_c _ _ (bl X) (bl B) X B (by omega) (by omega) (bl_lt X) (bl_lt B) w' h1 (hb.keep hw))
  have MIN := Lib.hid (fun (p : Option Addr) (c X : Nat) (hX : bl X ≤ 2000) (hBX : B ≤ X) (w' : World) (hw : Below w.heap.size w w') (h1 : RN w' (.slice p (bl X) c) (bl X) X) => Minus_f _ _ (bl X) (bl B) X B (by omega) (by omega) (bl_lt X) (bl_lt B) hBX w' h1 (hb.keep hw))
  have DS := Lib.hid (fun t => div_step A B t hB0)
  have ML := Lib.hid (fun j => Nat.mod_lt (A / 2 ^ j) hB0)
  have A0 := Lib.hid (show A / 2 ^ bl A = 0 from Nat.div_eq_of_lt (bl_lt A))
  clear ha hb
  obtain ⟨LA, hLA⟩ : ∃ L, L = bl A := ⟨_, rfl⟩
  rw [← hLA] at Hc A0 hA hA1 hca ⊢
  have HLA := Lib.hid hLA; clear hLA
  have BLB := Lib.hid (fun (R : Nat) (h : R < B) => bl_mono_le R (bl B) (Nat.lt_trans h (bl_lt B)))
  have HB0 := Lib.hid hB0; clear hB0
  have QL := Lib.hid (show A / B < 2 ^ LA by rw [HLA.out]; exact Nat.lt_of_le_of_lt (Nat.div_le_self _ _) (bl_lt A))
  go_enter Tryd.func66, Tryd.ntmps66
  go_wp2_with (at_make; refine wpList_make_full _ rfl _ _ 51 rfl w.heap.size 5 i0 (.int .u8 0) 1 Tryd.underlying51 hi hz0 hz1 _ _ _ _ LA rfl rfl rfl rfl ?b2 ?b3 ?b4 ?_)
  case b2 => rw [hz2]; omega
  case b3 => unfold maxLen; omega
  case b4 => omega
  intro w1 hown hgrow
  rw [toList_madeCells_one] at hown
  have hz := dg_up 0 LA 0
  rw [Nat.zero_mul, Nat.add_zero, show dg 0 0 = [] from rfl, List.append_nil] at hz
  rw [hz] at hown
  have hb1 : Below w.heap.size w w1 := (Below.refl w.heap.size w).grown hgrow (Nat.le_refl _) (by simp)
  have hlt1 : w.heap.size < w1.heap.size := (hown.lt w.heap.size rfl).2
  have st : DV w w1 w1.heap.size LA none 0 0 0 LA := ⟨World.ownsRow_nil _ _ _ _, by rw [Nat.zero_mul]; exact hown, hb1, Nat.le_refl _⟩
  have St := Lib.hid st; clear st
  clear hgrow hown hz hb1
  go_wp2
  go_loopw [7, 8] (fun r i wr => ∃ (j : Nat) (p : Option Addr) (c Q R : Nat), j ≤ LA ∧ i = .int .i64 ((j : Int) - 1) ∧ r = .slice p (bl R) c ∧ Q = A / 2 ^ j / B ∧ R = A / 2 ^ j % B ∧ DV w wr w1.heap.size LA p c Q R j) (fun _ i _ => (intOf i + 1).toNat)
  case atStart => exact ⟨LA, none, 0, 0, 0, Nat.le_refl _, rfl, rfl, by rw [A0.out, Nat.zero_div], by rw [A0.out, Nat.zero_mod], St.out⟩
  case round =>
    obtain ⟨j, p, c, Q, R, hj, rfl, rfl, hQ, hR, hdv⟩ := hrel
    obtain ⟨hr, hout, hbe, hsz⟩ := hdv
    have hRB : R < B := by rw [hR]; exact ML.out j
    have hRb := BLB.out R hRB
    have HRB := Lib.hid hRB; clear hRB
    rcases Nat.eq_zero_or_pos j with c0 | c0
    · subst c0
      rw [Nat.pow_zero, Nat.div_one] at hQ hR
      have HQ := Lib.hid hQ; clear hQ
      have HR := Lib.hid hR; clear hR
      have hq : RN wr (.slice (some ⟨w.heap.size, 0, none⟩) LA LA) LA Q := RN.of (by rw [Nat.pow_zero, Nat.mul_one] at hout; exact hout)
      have hr0 : RN wr (.slice p (bl R) c) (bl R) R := RN.of hr
      rw [show (((0 : Nat) : Int) - 1) = -1 from rfl]
      clear hr hout
      go_wp2_with fail
      refine (trim_c _ LA Q (by omega) (by rw [HQ.out]; exact QL.out) _ hq).mono ?_
      rintro e w2 ⟨p2, c2, rfl, h2, hb⟩
      go_wp2_with fail
      go_ret2
      have hQ := HQ.out
      have hR := HR.out
      subst hQ hR
      exact ⟨p2, c2, p, c, rfl, h2, hr0.keep hb, bt hbe hb⟩
    · obtain ⟨t, rfl⟩ : ∃ t, j = t + 1 := ⟨j - 1, by omega⟩
      rw [show (((t + 1 : Nat) : Int) - 1) = (t : Int) by omega]
      have hc := ck hbe (Hc.out t (by omega))
      have hds := DS.out t
      have hd1 := bd_le A t
      rw [← hQ, ← hR] at hds
      have HDS := Lib.hid hds; clear hds
      have HQ := Lib.hid hQ; clear hQ
      have HR := Lib.hid hR; clear hR
      generalize bd A t = d at *
      obtain ⟨X, hXe⟩ : ∃ X, X = R * 2 + d := ⟨_, rfl⟩
      rw [← hXe] at HDS
      have ho1 := own_one wr (.int .u8 (d : Int))
      have key : ∀ (v' : Value) (w2 : World), w2.ownsRow wr.heap.size 5 1 v' (1 + bl R) ([.int .u8 (d : Int)] ++ dg R (bl R)) → (wr.alloc (.cells #[.int .u8 (d : Int)] 5)).grownBy w2 (some wr.heap.size) →
          RN w2 v' (1 + bl R) X ∧ Below wr.heap.size wr w2 := by
        intro v' w2 h1 h2
        rw [dg_cons R (bl R) d hd1, ← hXe] at h1
        exact ⟨RN.of h1, ((Below.refl wr.heap.size wr).alloc (Nat.le_refl _) _).grown h2 (by simp) (fun k hk => (ho1.lt k hk).1)⟩
      have Key := Lib.hid key; clear key
      have hX2 : X < 2 ^ (1 + bl R) := by
        have := bl_lt R
        rw [show 1 + bl R = bl R + 1 by omega, Nat.pow_succ]; omega
      have hXb : bl X ≤ 2000 := by have := bl_mono_le _ _ hX2; omega
      have HXe := Lib.hid hXe; clear hXe
      have HX2 := Lib.hid hX2; clear hX2
      have eo : Q * 2 ^ (t + 1) = Q * 2 * 2 ^ t := by rw [Nat.pow_succ, Nat.mul_assoc, Nat.mul_comm 2]
      have Eo := Lib.hid eo; clear eo
      have HO1 := Lib.hid ho1; clear ho1
      by_cases cR : bl R = 0
      · have hr0 : R = 0 := by
          have := bl_lt R; rw [cR] at this; simpa using this
        subst hr0
        have hrn : RN wr (.slice p 0 c) 0 0 := RN.of hr
        rcases hrn.none0 with ⟨rfl, rfl⟩ | ⟨gr, rfl⟩
        · clear hrn cR
          rw [show bl 0 = 0 from rfl]
          obtain ⟨hk, hbw⟩ := Key.out (.slice (some ⟨wr.heap.size, 0, none⟩) 1 1) (wr.alloc (.cells #[.int .u8 (d : Int)] 5)) HO1.out ⟨rfl, rfl, rfl, Nat.le_refl _, fun _ _ _ => rfl⟩
          go_wp2_with (at_builtin; refine wpList_append_own_none rfl _ _ 51 rfl wr.heap.size 5 i0 1 Tryd.underlying51 hi _ 1 [.int .u8 (d : Int)] rfl HO1.out rfl ?_)
          clear Key HO1
          have hbe2 := bt hbe hbw
          have hout2 := own_keep hout hbw
          have hsz2 := Nat.le_trans hsz hbw.size
          clear hc hr hout hbe
          go_wp2_with fail
          refine (trim_f _ (1 + bl 0) X (by omega) HX2.out _ hk).mono ?_
          rintro e w3 ⟨p3, c3, rfl, h3, hb⟩
          have hbe3 := bt hbe2 hb
          have hout3 := own_keep hout2 hb
          have hsz3 := Nat.le_trans hsz2 hb.size
          have h3r : RN w3 _ _ _ := RN.of h3
          have h3o := own_base h3 hsz2
          clear hbe2 hout2 h3 hb hk hbw hsz hsz2
          go_wp2_with fail
          refine (CMP.out _ _ X hXb _ hbe3 h3r).mono ?_
          by_cases cx : X < B
          · have hcm : cmpN X B = -1 := by unfold cmpN; rw [if_pos cx]
            rw [hcm]
            rintro e w4 ⟨rfl, rfl⟩
            obtain ⟨d1, d2⟩ := HDS.out.1 cx
            have D1 := Lib.hid d1; clear d1
            have D2 := Lib.hid d2; clear d2
            rw [Eo.out] at hout3
            have HO3 := Lib.hid hout3; clear hout3
            have H3O := Lib.hid h3o; clear h3o
            clear hcm cx h3r
            go_wp2_with fail
            go_roundw
            case rel => exact ⟨t, p3, c3, Q * 2, X, by omega, rfl, rfl, D1.out.symm, D2.out.symm, H3O.out, HO3.out, hbe3, hsz3⟩
            case measure => simp [intOf]
          · have hcm : cmpN X B = 0 ∨ cmpN X B = 1 := by unfold cmpN; rw [if_neg cx]; split <;> simp
            obtain ⟨d1, d2⟩ := HDS.out.2 cx
            have D1 := Lib.hid d1; clear d1
            have D2 := Lib.hid d2; clear d2
            have CX := Lib.hid cx; clear cx
            have HO3 := Lib.hid hout3; clear hout3
            have H3O := Lib.hid h3o; clear h3o
            rcases hcm with hcm | hcm
            all_goals
              rw [hcm]
              rintro e w4 ⟨rfl, rfl⟩
              clear hcm
              go_wp2_with fail
              refine (MIN.out _ _ X hXb (by have := CX.out; omega) _ hbe3 h3r).mono ?_
              rintro e w5 ⟨p5, c5, rfl, h5, hb⟩
              have hbe5 := bt hbe3 hb
              have hout5 := own_keep HO3.out hb
              have hsz5 := Nat.le_trans hsz3 hb.size
              have h5o := own_base h5 hsz3
              have hcell5 : w5.cell? ⟨w.heap.size, t, none⟩ = some (.int .u8 ((Q * 2 ^ (t + 1) / 2 ^ t % 2 : Nat) : Int)) := by
                obtain ⟨g', cap', he, _, _, hx⟩ := own_cells hout5 hA1
                cases he
                exact hx t _ (dg_at _ _ _ (by omega))
              generalize ((Q * 2 ^ (t + 1) / 2 ^ t % 2 : Nat) : Int) = old at hcell5
              have hfz := hout5.frozenAt t
              have hst := (hout5.stored t (.int .u8 1)).1
              rw [dg_set1 Q t LA (by omega)] at hst
              have HST := Lib.hid hst; clear hst
              have H5O := Lib.hid h5o; clear h5o
              clear hout5 h5 hb h3r
              go_wp2_with fail
              go_roundw
              case rel => exact ⟨t, p5, c5, Q * 2 + 1, X - B, by omega, rfl, rfl, D1.out.symm, D2.out.symm, ownsRow_setCell_below H5O.out hlt1 _, HST.out, hbe5.st (Nat.le_refl _), by rw [World.size_setCell]; exact hsz5⟩
              case measure => simp [intOf]
        · clear hrn cR
          rw [show bl 0 = 0 from rfl]
          go_wp2_with (at_builtin; refine wpList_append_own _ rfl _ _ 51 rfl wr.heap.size 5 i0 (.int .u8 0) 1 1 Tryd.underlying51 hi hz0 hz1 hz2 rfl (by decide) _ _ _ rfl HO1.out ⟨gr, 0, none⟩ 0 c (dg 0 0) rfl (by rw [dg_length]) ?c1 ?c2 ?c3 ?c4 ?c5 ?_)
          case c1 =>
            intro j' u hj'
            have := (List.getElem?_eq_some_iff.1 hj').1
            rw [dg_length] at this; omega
          case c2 =>
            intro u hm
            obtain ⟨d', rfl⟩ := dg_u8 0 0 u hm
            rfl
          case c3 => unfold maxLen; omega
          case c4 => omega
          case c5 => simp
          intro v' w2 hown' hgrow _
          obtain ⟨hk, hbw⟩ := Key.out v' w2 hown' hgrow
          clear Key HO1 hown' hgrow
          have hbe2 := bt hbe hbw
          have hout2 := own_keep hout hbw
          have hsz2 := Nat.le_trans hsz hbw.size
          clear hc hr hout hbe
          go_wp2_with fail
          refine (trim_f _ (1 + bl 0) X (by omega) HX2.out _ hk).mono ?_
          rintro e w3 ⟨p3, c3, rfl, h3, hb⟩
          have hbe3 := bt hbe2 hb
          have hout3 := own_keep hout2 hb
          have hsz3 := Nat.le_trans hsz2 hb.size
          have h3r : RN w3 _ _ _ := RN.of h3
          have h3o := own_base h3 hsz2
          clear hbe2 hout2 h3 hb hk hbw hsz hsz2
          go_wp2_with fail
          refine (CMP.out _ _ X hXb _ hbe3 h3r).mono ?_
          by_cases cx : X < B
          · have hcm : cmpN X B = -1 := by unfold cmpN; rw [if_pos cx]
            rw [hcm]
            rintro e w4 ⟨rfl, rfl⟩
            obtain ⟨d1, d2⟩ := HDS.out.1 cx
            have D1 := Lib.hid d1; clear d1
            have D2 := Lib.hid d2; clear d2
            rw [Eo.out] at hout3
            have HO3 := Lib.hid hout3; clear hout3
            have H3O := Lib.hid h3o; clear h3o
            clear hcm cx h3r
            go_wp2_with fail
            go_roundw
            case rel => exact ⟨t, p3, c3, Q * 2, X, by omega, rfl, rfl, D1.out.symm, D2.out.symm, H3O.out, HO3.out, hbe3, hsz3⟩
            case measure => simp [intOf]
          · have hcm : cmpN X B = 0 ∨ cmpN X B = 1 := by unfold cmpN; rw [if_neg cx]; split <;> simp
            obtain ⟨d1, d2⟩ := HDS.out.2 cx
            have D1 := Lib.hid d1; clear d1
            have D2 := Lib.hid d2; clear d2
            have CX := Lib.hid cx; clear cx
            have HO3 := Lib.hid hout3; clear hout3
            have H3O := Lib.hid h3o; clear h3o
            rcases hcm with hcm | hcm
            all_goals
              rw [hcm]
              rintro e w4 ⟨rfl, rfl⟩
              clear hcm
              go_wp2_with fail
              refine (MIN.out _ _ X hXb (by have := CX.out; omega) _ hbe3 h3r).mono ?_
              rintro e w5 ⟨p5, c5, rfl, h5, hb⟩
              have hbe5 := bt hbe3 hb
              have hout5 := own_keep HO3.out hb
              have hsz5 := Nat.le_trans hsz3 hb.size
              have h5o := own_base h5 hsz3
              have hcell5 : w5.cell? ⟨w.heap.size, t, none⟩ = some (.int .u8 ((Q * 2 ^ (t + 1) / 2 ^ t % 2 : Nat) : Int)) := by
                obtain ⟨g', cap', he, _, _, hx⟩ := own_cells hout5 hA1
                cases he
                exact hx t _ (dg_at _ _ _ (by omega))
              generalize ((Q * 2 ^ (t + 1) / 2 ^ t % 2 : Nat) : Int) = old at hcell5
              have hfz := hout5.frozenAt t
              have hst := (hout5.stored t (.int .u8 1)).1
              rw [dg_set1 Q t LA (by omega)] at hst
              have HST := Lib.hid hst; clear hst
              have H5O := Lib.hid h5o; clear h5o
              clear hout5 h5 hb h3r
              go_wp2_with fail
              go_roundw
              case rel => exact ⟨t, p5, c5, Q * 2 + 1, X - B, by omega, rfl, rfl, D1.out.symm, D2.out.symm, ownsRow_setCell_below H5O.out hlt1 _, HST.out, hbe5.st (Nat.le_refl _), by rw [World.size_setCell]; exact hsz5⟩
              case measure => simp [intOf]
      · have hrn : RN wr (.slice p (bl R) c) (bl R) R := RN.of hr
        obtain ⟨gr, rfl, hcr, hcellr⟩ := hrn.cells (by omega)
        have HCR := Lib.hid hcellr; clear hcellr hrn
        go_wp2_with (at_builtin; refine wpList_append_own _ rfl _ _ 51 rfl wr.heap.size 5 i0 (.int .u8 0) 1 1 Tryd.underlying51 hi hz0 hz1 hz2 rfl (by decide) _ _ _ rfl HO1.out ⟨gr, 0, none⟩ (bl R) c (dg R (bl R)) rfl (by rw [dg_length, Nat.mul_one]) ?c1 ?c2 ?c3 ?c4 ?c5 ?_)
        case c1 =>
          intro j' u hj'
          have hlt : j' < bl R := by
            have := (List.getElem?_eq_some_iff.1 hj').1
            rw [dg_length] at this; exact this
          rw [dg_at _ _ _ hlt] at hj'
          have h1 := HCR.out j' hlt
          have h2 := World.block_lt_of_cell? wr _ h1
          rw [Addr.add_lit, Nat.zero_add, ((Below.refl wr.heap.size wr).alloc (Nat.le_refl _) (.cells #[.int .u8 (d : Int)] 5)).cell (p := ⟨gr, j', none⟩) h2, h1]; exact hj'
        case c2 =>
          intro u hm
          obtain ⟨d', rfl⟩ := dg_u8 R (bl R) u hm
          rfl
        case c3 => unfold maxLen; omega
        case c4 => omega
        case c5 => simp
        intro v' w2 hown' hgrow _
        obtain ⟨hk, hbw⟩ := Key.out v' w2 hown' hgrow
        clear Key HO1 hown' hgrow
        have hbe2 := bt hbe hbw
        have hout2 := own_keep hout hbw
        have hsz2 := Nat.le_trans hsz hbw.size
        clear hc hr hout hbe
        go_wp2_with fail
        refine (trim_f _ (1 + bl R) X (by omega) HX2.out _ hk).mono ?_
        rintro e w3 ⟨p3, c3, rfl, h3, hb⟩
        have hbe3 := bt hbe2 hb
        have hout3 := own_keep hout2 hb
        have hsz3 := Nat.le_trans hsz2 hb.size
        have h3r : RN w3 _ _ _ := RN.of h3
        have h3o := own_base h3 hsz2
        clear hbe2 hout2 h3 hb hk hbw hsz hsz2
        go_wp2_with fail
        refine (CMP.out _ _ X hXb _ hbe3 h3r).mono ?_
        by_cases cx : X < B
        · have hcm : cmpN X B = -1 := by unfold cmpN; rw [if_pos cx]
          rw [hcm]
          rintro e w4 ⟨rfl, rfl⟩
          obtain ⟨d1, d2⟩ := HDS.out.1 cx
          have D1 := Lib.hid d1; clear d1
          have D2 := Lib.hid d2; clear d2
          rw [Eo.out] at hout3
          have HO3 := Lib.hid hout3; clear hout3
          have H3O := Lib.hid h3o; clear h3o
          clear hcm cx h3r
          go_wp2_with fail
          go_roundw
          case rel => exact ⟨t, p3, c3, Q * 2, X, by omega, rfl, rfl, D1.out.symm, D2.out.symm, H3O.out, HO3.out, hbe3, hsz3⟩
          case measure => simp [intOf]
        · have hcm : cmpN X B = 0 ∨ cmpN X B = 1 := by unfold cmpN; rw [if_neg cx]; split <;> simp
          obtain ⟨d1, d2⟩ := HDS.out.2 cx
          have D1 := Lib.hid d1; clear d1
          have D2 := Lib.hid d2; clear d2
          have CX := Lib.hid cx; clear cx
          have HO3 := Lib.hid hout3; clear hout3
          have H3O := Lib.hid h3o; clear h3o
          rcases hcm with hcm | hcm
          all_goals
            rw [hcm]
            rintro e w4 ⟨rfl, rfl⟩
            clear hcm
            go_wp2_with fail
            refine (MIN.out _ _ X hXb (by have := CX.out; omega) _ hbe3 h3r).mono ?_
            rintro e w5 ⟨p5, c5, rfl, h5, hb⟩
            have hbe5 := bt hbe3 hb
            have hout5 := own_keep HO3.out hb
            have hsz5 := Nat.le_trans hsz3 hb.size
            have h5o := own_base h5 hsz3
            have hcell5 : w5.cell? ⟨w.heap.size, t, none⟩ = some (.int .u8 ((Q * 2 ^ (t + 1) / 2 ^ t % 2 : Nat) : Int)) := by
              obtain ⟨g', cap', he, _, _, hx⟩ := own_cells hout5 hA1
              cases he
              exact hx t _ (dg_at _ _ _ (by omega))
            generalize ((Q * 2 ^ (t + 1) / 2 ^ t % 2 : Nat) : Int) = old at hcell5
            have hfz := hout5.frozenAt t
            have hst := (hout5.stored t (.int .u8 1)).1
            rw [dg_set1 Q t LA (by omega)] at hst
            have HST := Lib.hid hst; clear hst
            have H5O := Lib.hid h5o; clear h5o
            clear hout5 h5 hb h3r
            go_wp2_with fail
            go_roundw
            case rel => exact ⟨t, p5, c5, Q * 2 + 1, X - B, by omega, rfl, rfl, D1.out.symm, D2.out.symm, ownsRow_setCell_below H5O.out hlt1 _, HST.out, hbe5.st (Nat.le_refl _), by rw [World.size_setCell]; exact hsz5⟩
            case measure => simp [intOf]
end Go.Proofs.YtfdenbgmogojeaaDoor

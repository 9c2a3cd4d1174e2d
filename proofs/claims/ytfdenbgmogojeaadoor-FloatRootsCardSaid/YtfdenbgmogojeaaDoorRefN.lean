/- Contracts of quadratref01's Cmp, Plus, Minus: numbers as slices of binary digits; conditions: the slices hold the numbers' digits, and are not longer than a hundred thousand. -/
import Derived.Test.YtfdenbgmogojeaaDoorRefM
namespace Go.Proofs.YtfdenbgmogojeaaDoor
open Go.RowKit

set_option maxRecDepth 100000 in
set_option maxHeartbeats 2000000 in
theorem Cmp_c (u v : Value) (LA LB A B : Nat) (hLA : LA ≤ 100000) (hLB : LB ≤ 100000) (hA : A < 2 ^ LA) (hB : B < 2 ^ LB) (w : World) (ha : RN w u LA A) (hb : RN w v LB B) :
    Calls Tryd.prog 57 #[u, v] w fun e w' => e = .returned (.int .i64 (cmpN A B)) ∧ w = w' := by
  obtain ⟨pa, ca, rfl⟩ := ha.slice
  obtain ⟨pb, cb, rfl⟩ := hb.slice
  have D1 := Lib.hid (fun (i : Nat) (hi : i ≤ 1000000) => digit_c _ LA A (by omega) hA i hi w ha)
  have D2 := Lib.hid (fun (i : Nat) (hi : i ≤ 1000000) => digit_c _ LB B (by omega) hB i hi w hb)
  have HA := Lib.hid hA; clear hA
  have HB := Lib.hid hB; clear hB
  clear ha hb
  go_enter Tryd.func57, Tryd.ntmps57
  go_wp2
  go_loopw [5] (fun i wr => ∃ j : Nat, j ≤ max LA LB ∧ i = .int .i64 ((j : Int) - 1) ∧ A / 2 ^ j = B / 2 ^ j ∧ wr = w) (fun i _ => (intOf i + 1).toNat)
  case atStart =>
    refine ⟨max LA LB, Nat.le_refl _, by rw [show ((max LA LB : Nat) : Int) = max (LA : Int) (LB : Int) by omega], ?_, rfl⟩
    rw [Nat.div_eq_of_lt (Nat.lt_of_lt_of_le HA.out (Nat.pow_le_pow_right (by decide) (by omega))), Nat.div_eq_of_lt (Nat.lt_of_lt_of_le HB.out (Nat.pow_le_pow_right (by decide) (by omega)))]
  case round =>
    obtain ⟨j, hj, rfl, hq, rfl⟩ := hrel
    have Hq := Lib.hid hq; clear hq
    rcases Nat.eq_zero_or_pos j with c | c
    · subst c
      have hz : cmpN A B = 0 := by
        have := Hq.out; simp at this; unfold cmpN; rw [if_neg (by omega), if_pos this]
      have hz' := Lib.hid hz; clear hz
      rw [show (((0 : Nat) : Int) - 1) = -1 from rfl]
      go_wp2
      go_ret
      exact ⟨by rw [hz'.out]; rfl, rfl⟩
    · obtain ⟨i, rfl⟩ : ∃ i, j = i + 1 := ⟨j - 1, by omega⟩
      rw [show (((i + 1 : Nat) : Int) - 1) = (i : Int) by omega]
      have b1 := bd_le A i
      have b2 := bd_le B i
      by_cases hd : bd A i = bd B i
      · have hn := Lib.hid (cmp_next A B i Hq.out hd)
        have E1 := Lib.hid hd
        have d1 := D1.out i (by omega)
        have d2 := D2.out i (by omega)
        rw [← hd] at d2
        have H1 := Lib.hid d1; clear d1
        have H2 := Lib.hid d2; clear d2 hd
        generalize bd A i = a at *
        go_wp2_with fail
        refine H1.out.mono ?_
        rintro e w' ⟨rfl, rfl⟩
        go_wp2_with fail
        refine H2.out.mono ?_
        rintro e w' ⟨rfl, rfl⟩
        go_wp2_with fail
        go_roundw
        case rel => exact ⟨i, by omega, by simp, hn.out, trivial⟩
        case measure => simp [intOf]
      · have hn := Lib.hid (cmp_step A B i Hq.out hd)
        have H1 := Lib.hid (D1.out i (by omega))
        have H2 := Lib.hid (D2.out i (by omega))
        generalize bd A i = a at *
        generalize bd B i = b at *
        have hab : (a : Int) ≠ (b : Int) := by omega
        go_wp2_with fail
        refine H1.out.mono ?_
        rintro e w' ⟨rfl, rfl⟩
        go_wp2_with fail
        refine H2.out.mono ?_
        rintro e w' ⟨rfl, rfl⟩
        go_wp2_with fail
        refine H1.out.mono ?_
        rintro e w' ⟨rfl, rfl⟩
        go_wp2_with fail
        refine H2.out.mono ?_
        rintro e w' ⟨rfl, rfl⟩
        go_wp2_with fail
        go_ret
        exact ⟨by rw [← hn.out]; rfl, rfl⟩

set_option maxRecDepth 100000 in
set_option maxHeartbeats 4000000 in
theorem Plus_c (u v : Value) (LA LB A B : Nat) (hLA : LA ≤ 100000) (hLB : LB ≤ 100000) (hA : A < 2 ^ LA) (hB : B < 2 ^ LB) (w : World) (ha : RN w u LA A) (hb : RN w v LB B) :
    Calls Tryd.prog 56 #[u, v] w fun e w' => ∃ p cap, e = .returned (.slice p (bl (A + B)) cap) ∧ RN w' (.slice p (bl (A + B)) cap) (bl (A + B)) (A + B) ∧ Below w.heap.size w w' := by
  obtain ⟨i0, hi, hz0, hz1, hz2⟩ := info_parts info5
  obtain ⟨pa, ca, rfl⟩ := ha.slice
  obtain ⟨pb, cb, rfl⟩ := hb.slice
  obtain ⟨Bs, hB0⟩ : ∃ Bs, Bs = w.heap.size := ⟨_, rfl⟩
  have D1 := Lib.hid (fun (i : Nat) (hi : i ≤ 1000000) (w' : World) (hw : Below w.heap.size w w') => digit_c _ LA A (by omega) hA i hi w' (ha.keep hw))
  have D2 := Lib.hid (fun (i : Nat) (hi : i ≤ 1000000) (w' : World) (hw : Below w.heap.size w w') => digit_c _ LB B (by omega) hB i hi w' (hb.keep hw))
  rw [← hB0] at D1 D2 ⊢
  have HB := Lib.hid hB0; clear hB0
  have Hlt := Lib.hid (fun j h1 h2 h3 => sum_end A B LA LB j hA hB h1 h2 h3)
  have Hfar := Lib.hid (fun j h1 h2 => carr_far A B LA LB j hA hB h1 h2)
  clear ha hb hA hB
  go_enter Tryd.func56, Tryd.ntmps56
  go_wp2
  go_loopw [5, 6, 7] (fun o c x wr => ∃ j : Nat, j ≤ max LA LB + 1 ∧ c = .int .u8 (carr A B j : Int) ∧ x = .int .i64 (j : Int) ∧ wr.ownsRow Bs 5 1 o j (dg (A + B) j) ∧ Below Bs w wr) (fun _ _ x _ => (max LA LB + 1) - (intOf x).toNat)
  case atStart => exact ⟨0, by omega, by rw [carr_zero]; rfl, rfl, World.ownsRow_nil _ _ _ _, Below.refl _ _⟩
  case round =>
    obtain ⟨j, hj, rfl, rfl, hown, hbe⟩ := hrel
    have hsz : Bs ≤ wr.heap.size := by have := hbe.size; have := HB.out; omega
    by_cases cont : j < LA ∨ j < LB ∨ 0 < carr A B j
    · have hjm : j ≤ max LA LB := by
        rcases Nat.lt_or_ge (max LA LB) j with c | c
        · have := Hfar.out j (by omega) (by omega); omega
        · exact c
      have h1 := Lib.hid (D1.out j (by omega) wr hbe)
      have h2 := Lib.hid (D2.out j (by omega) wr hbe)
      have hcs := Lib.hid (carr_succ A B j)
      have hds := Lib.hid (sum_digit A B j)
      have ba := bd_le A j
      have bb := bd_le B j
      have bc := carr_le A B j
      generalize bd A j = a at *
      generalize bd B j = b at *
      generalize carr A B j = c at *
      have cases3 : (j < LA) ∨ (¬ j < LA ∧ j < LB) ∨ (¬ j < LA ∧ ¬ j < LB ∧ 0 < c) := by omega
      clear cont
      rcases cases3 with g1 | ⟨g1, g2⟩ | ⟨g1, g2, g3⟩
      all_goals
        go_wp2_with fail
        refine h1.out.mono ?_
        rintro e w' ⟨rfl, rfl⟩
        go_wp2_with fail
        refine h2.out.mono ?_
        rintro e w' ⟨rfl, rfl⟩
        go_wp2_with (at_builtin; refine wpList_append_own _ rfl _ _ 51 rfl Bs 5 i0 (.int .u8 0) 1 1 Tryd.underlying51 hi hz0 hz1 hz2 rfl (by decide) _ _ _ rfl (hown.alloc _) ⟨wr.heap.size, 0, none⟩ 1 1 [.int .u8 (((a : Int) + b + c) % 2)] rfl rfl ?c1 ?c2 ?c3 ?c4 ?c5 ?_)
        case c1 =>
          intro j' u hj'
          match j', hj' with
          | 0, hj' => simp at hj'; subst hj'; simp [Addr.add]
        case c2 => intro u hu; simp at hu; subst hu; rfl
        case c3 => unfold maxLen; omega
        case c4 => omega
        case c5 => simp; omega
        intro v' w1 hown' hgrow _
        have hd : dg (A + B) j ++ [.int .u8 (((a : Int) + b + c) % 2)] = dg (A + B) (j + 1) := by
          rw [dg_succ]
          have := hds.out
          unfold bd at this
          rw [← this]; simp
        rw [hd] at hown'
        have hb' : Below Bs w w1 := (hbe.alloc hsz _).grown hgrow (by simp; omega) (fun k hk => (hown.lt k hk).1)
        clear hgrow hown hd
        go_wp2
        go_roundw
        case rel => exact ⟨j + 1, by omega, by rw [hcs.out]; simp, by simp, hown', hb'⟩
        case measure => simp [intOf]; omega
    · have hend := Hlt.out j (by omega) (by omega) (by omega)
      have hc0 : carr A B j = 0 := by omega
      have g1 : ¬ j < LA := by omega
      have g2 : ¬ j < LB := by omega
      have He := Lib.hid hend; clear hend cont
      rw [hc0]
      obtain ⟨p, cap, hv⟩ := (RN.of hown).slice
      subst hv
      have ht := Lib.hid (trim_c (.slice p j cap) j (A + B) (by omega) He.out wr (RN.of hown))
      clear hown
      go_wp2_with fail
      refine ht.out.mono ?_
      rintro e w1 ⟨p', cap', rfl, hr, hb⟩
      go_wp2_with fail
      go_ret
      have hBB := HB.out
      subst hBB
      exact ⟨p', cap', rfl, hr, bt hbe hb⟩

set_option maxRecDepth 100000 in
set_option maxHeartbeats 4000000 in
theorem Minus_c (u v : Value) (LA LB A B : Nat) (hLA : LA ≤ 100000) (hLB : LB ≤ 100000) (hA : A < 2 ^ LA) (hB : B < 2 ^ LB) (hBA : B ≤ A) (w : World) (ha : RN w u LA A) (hb : RN w v LB B) :
    Calls Tryd.prog 58 #[u, v] w fun e w' => ∃ p cap, e = .returned (.slice p (bl (A - B)) cap) ∧ RN w' (.slice p (bl (A - B)) cap) (bl (A - B)) (A - B) ∧ Below w.heap.size w w' := by
  obtain ⟨i0, hi, hz0, hz1, hz2⟩ := info_parts info5
  obtain ⟨pa, ca, rfl⟩ := ha.slice
  obtain ⟨pb, cb, rfl⟩ := hb.slice
  obtain ⟨Bs, hB0⟩ : ∃ Bs, Bs = w.heap.size := ⟨_, rfl⟩
  have D1 := Lib.hid (fun (i : Nat) (hi : i ≤ 1000000) (w' : World) (hw : Below w.heap.size w w') => digit_c _ LA A (by omega) hA i hi w' (ha.keep hw))
  have D2 := Lib.hid (fun (i : Nat) (hi : i ≤ 1000000) (w' : World) (hw : Below w.heap.size w w') => digit_c _ LB B (by omega) hB i hi w' (hb.keep hw))
  rw [← hB0] at D1 D2 ⊢
  have HB := Lib.hid hB0; clear hB0
  have Hlt := Lib.hid (show A - B < 2 ^ LA by omega)
  have HBA := Lib.hid hBA
  clear ha hb hA hB hBA
  go_enter Tryd.func58, Tryd.ntmps58
  go_wp2
  go_loopw [5, 6, 7] (fun o c x wr => ∃ j : Nat, j ≤ LA ∧ c = .int .u8 (owe A B j : Int) ∧ x = .int .i64 (j : Int) ∧ wr.ownsRow Bs 5 1 o j (dg (A - B) j) ∧ Below Bs w wr) (fun _ _ x _ => LA - (intOf x).toNat)
  case atStart => exact ⟨0, by omega, by rw [owe_zero]; rfl, rfl, World.ownsRow_nil _ _ _ _, Below.refl _ _⟩
  case round =>
    obtain ⟨j, hj, rfl, rfl, hown, hbe⟩ := hrel
    have hsz : Bs ≤ wr.heap.size := by have := hbe.size; have := HB.out; omega
    by_cases cont : j < LA
    · have h1 := Lib.hid (D1.out j (by omega) wr hbe)
      have h2 := Lib.hid (D2.out j (by omega) wr hbe)
      have hcs := Lib.hid (owe_succ A B j)
      have hds := Lib.hid (diff_digit A B j HBA.out)
      have ba := bd_le A j
      have bb := bd_le B j
      have bc := owe_le A B j
      generalize bd A j = a at *
      generalize bd B j = b at *
      generalize owe A B j = c at *
      have e1 : ((2 + a - b - c : Nat) : Int) = 2 + (a : Int) - b - c := by omega
      have e2 : 0 ≤ 2 + (a : Int) - b - c ∧ 2 + (a : Int) - b - c ≤ 3 := by omega
      have E1 := Lib.hid e1; clear e1
      obtain ⟨e20, e21⟩ := e2
      go_wp2_with fail
      refine h1.out.mono ?_
      rintro e w' ⟨rfl, rfl⟩
      go_wp2_with fail
      refine h2.out.mono ?_
      rintro e w' ⟨rfl, rfl⟩
      go_wp2_with (at_builtin; refine wpList_append_own _ rfl _ _ 51 rfl Bs 5 i0 (.int .u8 0) 1 1 Tryd.underlying51 hi hz0 hz1 hz2 rfl (by decide) _ _ _ rfl (hown.alloc _) ⟨wr.heap.size, 0, none⟩ 1 1 [.int .u8 ((2 + (a : Int) - b - c) % 2)] rfl rfl ?c1 ?c2 ?c3 ?c4 ?c5 ?_)
      case c1 =>
        intro j' u hj'
        match j', hj' with
        | 0, hj' => simp at hj'; subst hj'; simp [Addr.add]
      case c2 => intro u hu; simp at hu; subst hu; rfl
      case c3 => unfold maxLen; omega
      case c4 => omega
      case c5 => simp; omega
      intro v' w1 hown' hgrow _
      have hd : dg (A - B) j ++ [.int .u8 ((2 + (a : Int) - b - c) % 2)] = dg (A - B) (j + 1) := by
        rw [dg_succ]
        have := hds.out
        unfold bd at this
        rw [← this]; have := E1.out; simp only [Int.natCast_emod, this]; rfl
      rw [hd] at hown'
      have hb' : Below Bs w w1 := (hbe.alloc hsz _).grown hgrow (by simp; omega) (fun k hk => (hown.lt k hk).1)
      clear hgrow hown hd
      go_wp2
      go_roundw
      case rel => exact ⟨j + 1, by omega, by rw [hcs.out]; have := E1.out; have h4 : (((1 - (2 + a - b - c) / 2 : Nat)) : Int) = 1 - (2 + (a : Int) - b - c) / 2 := (by omega); rw [h4], by simp, hown', hb'⟩
      case measure => simp [intOf]; omega
    · have hjL : j = LA := by omega
      subst hjL
      clear cont
      obtain ⟨p, cap, hv⟩ := (RN.of hown).slice
      subst hv
      have ht := Lib.hid (trim_c (.slice p j cap) j (A - B) (by omega) Hlt.out wr (RN.of hown))
      clear hown
      go_wp2_with fail
      refine ht.out.mono ?_
      rintro e w1 ⟨p', cap', rfl, hr, hb⟩
      go_wp2_with fail
      go_ret
      have hBB := HB.out
      subst hBB
      exact ⟨p', cap', rfl, hr, bt hbe hb⟩

end Go.Proofs.YtfdenbgmogojeaaDoor

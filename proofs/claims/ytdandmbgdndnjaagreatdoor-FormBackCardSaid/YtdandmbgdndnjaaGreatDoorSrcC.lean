/- Contracts of marks and Quoted, of the document's side: whether a byte is within quotes. -/
import Derived.Test.YtdandmbgdndnjaaGreatDoorSrcB
namespace Go.Proofs.YtdandmbgdndnjaaGreatDoor
open Go.RowKit

/-- The marks of a text's first bytes, and of what stands behind them. -/
def mkV (L : List UInt8) (o n : Nat) : List Value := (List.range (n + 1)).map fun j => .int .u8 (opB (L.take j) o : Int)
theorem mk_zero (L : List UInt8) (o : Nat) : mkV L o 0 = [.int .u8 (o : Int)] := rfl
theorem mk_succ (L : List UInt8) (o n : Nat) : mkV L o (n + 1) = mkV L o n ++ [.int .u8 (opB (L.take (n + 1)) o : Int)] := by
  unfold mkV
  rw [List.range_succ, List.map_append]
  rfl
theorem mk_at (L : List UInt8) (o : Nat) {n j : Nat} (h : j ≤ n) : (mkV L o n)[j]? = some (.int .u8 (opB (L.take j) o : Int)) := by
  unfold mkV
  rw [List.getElem?_map, List.getElem?_range (by omega)]
  rfl
theorem info5 : (Tryz.prog.info? 5).map (fun i => (i.zero, i.size, i.bytes)) = some (some (.int .u8 0), 1, 1) := by kernel_rfl
/-- The relation at the head of marks' loop. -/
def MRel (s : ByteArray) (o : Nat) (w : World) (a v x : Value) (wr : World) : Prop :=
  ∃ k : Nat, k ≤ s.size ∧ x = .int .i64 (k : Int) ∧ a = .int .u8 (opB (s.data.toList.take k) o : Int) ∧ wr.ownsRow w.heap.size 5 1 v (k + 1) (mkV s.data.toList o k) ∧ Below w.heap.size w wr

set_option maxRecDepth 100000 in
set_option maxHeartbeats 4000000 in
theorem marks_c (s : ByteArray) (hs : s.size ≤ 1000000) (o : Nat) (ho : o < 256) (w : World) :
    Calls Tryz.prog 34 #[.string s, .int .u8 (o : Int)] w fun e w' => (∃ v, e = .returned v ∧ w'.ownsRow w.heap.size 5 1 v (s.size + 1) (mkV s.data.toList o s.size)) ∧ Below w.heap.size w w' := by
  go_enter Tryz.func34, Tryz.ntmps34
  go_wp2_with fail
  go_loopw [1, 5, 6] (fun a v x wr => MRel s o w a v x wr) (fun _ _ x _ => s.size - (intOf x).toNat)
  case atStart =>
    refine ⟨0, by omega, rfl, rfl, ?_, (Below.refl _ _).alloc (Nat.le_refl _) _⟩
    exact World.ownsRow_lit w _ 1 (Nat.le_refl _) (by unfold maxLen; omega) rfl
  case round =>
    obtain ⟨k, hk, rfl, rfl, hown, hB⟩ := hrel
    by_cases hlt : k < s.size
    · have hst := opB_step s k hlt o
      have hql := opB_lt (s.data.toList.take k) o ho
      generalize opB (s.data.toList.take k) o = q at *
      have Hst := Lib.hid hst
      have Hmk := Lib.hid (mk_succ s.data.toList o k)
      obtain ⟨i0, hi, hz0, hz1, hz2⟩ := info_parts info5
      clear hst
      by_cases hq0 : q = 0
      · subst hq0
        by_cases h39 : s[k].toNat = 39
        · have f1 : ((s[k].toNat : Int) == 39) = true := by simp; omega
          have Hv := Lib.hid (show bh 0 s[k].toNat = s[k].toNat by rw [h39]; rfl)
          clear h39
          go_wp2_with (at_builtin; refine wpList_append_own _ rfl _ _ 43 rfl w.heap.size 5 i0 (.int .u8 0) 1 1 Tryz.underlying43 hi hz0 hz1 hz2 rfl (by decide) _ _ _ rfl (hown.alloc _) ⟨wr.heap.size, 0, none⟩ 1 1 [.int .u8 (s[k].toNat : Int)] rfl rfl ?c1 ?c2 ?c3 ?c4 ?c5 ?_)
          case c1 =>
            intro jj u hjj
            have h := Has.new wr [.int .u8 (s[k].toNat : Int)] 5
            rw [Addr.add_lit, Nat.zero_add]
            exact (h jj u hjj).1
          case c2 =>
            intro u hu
            simp only [List.mem_singleton] at hu
            subst hu
            rfl
          case c3 => unfold maxLen; omega
          case c4 => omega
          case c5 => simp; have := hB.size; omega
          intro v' w3 hown' hgrow _
          have hB3 : Below w.heap.size w w3 := (hB.alloc hB.size _).grown hgrow (by simp; have := hB.size; omega) (fun j hj => (hown.lt j hj).1)
          clear hgrow hown hB
          go_wp2
          go_roundw
          case rel => exact ⟨k + 1, by omega, by go_num, by rw [Hst.out, Hv.out], by rw [Hmk.out, Hst.out, Hv.out]; exact hown', hB3⟩
          case measure => simp [intOf]; omega
        · have f1 : ((s[k].toNat : Int) == 39) = false := by simp; omega
          by_cases h34 : s[k].toNat = 34
          · have f2 : ((s[k].toNat : Int) == 34) = true := by simp; omega
            have Hv := Lib.hid (show bh 0 s[k].toNat = s[k].toNat by rw [h34]; rfl)
            clear h39 h34
            go_wp2_with (at_builtin; refine wpList_append_own _ rfl _ _ 43 rfl w.heap.size 5 i0 (.int .u8 0) 1 1 Tryz.underlying43 hi hz0 hz1 hz2 rfl (by decide) _ _ _ rfl (hown.alloc _) ⟨wr.heap.size, 0, none⟩ 1 1 [.int .u8 (s[k].toNat : Int)] rfl rfl ?c1 ?c2 ?c3 ?c4 ?c5 ?_)
            case c1 =>
              intro jj u hjj
              have h := Has.new wr [.int .u8 (s[k].toNat : Int)] 5
              rw [Addr.add_lit, Nat.zero_add]
              exact (h jj u hjj).1
            case c2 =>
              intro u hu
              simp only [List.mem_singleton] at hu
              subst hu
              rfl
            case c3 => unfold maxLen; omega
            case c4 => omega
            case c5 => simp; have := hB.size; omega
            intro v' w3 hown' hgrow _
            have hB3 : Below w.heap.size w w3 := (hB.alloc hB.size _).grown hgrow (by simp; have := hB.size; omega) (fun j hj => (hown.lt j hj).1)
            clear hgrow hown hB
            go_wp2
            go_roundw
            case rel => exact ⟨k + 1, by omega, by go_num, by rw [Hst.out, Hv.out], by rw [Hmk.out, Hst.out, Hv.out]; exact hown', hB3⟩
            case measure => simp [intOf]; omega
          · have f2 : ((s[k].toNat : Int) == 34) = false := by simp; omega
            have Hv := Lib.hid (show bh 0 s[k].toNat = 0 by unfold bh; split; rfl; rw [if_neg (by omega)])
            clear h39 h34
            go_wp2_with (at_builtin; refine wpList_append_own _ rfl _ _ 43 rfl w.heap.size 5 i0 (.int .u8 0) 1 1 Tryz.underlying43 hi hz0 hz1 hz2 rfl (by decide) _ _ _ rfl (hown.alloc _) ⟨wr.heap.size, 0, none⟩ 1 1 [.int .u8 (0 : Int)] rfl rfl ?c1 ?c2 ?c3 ?c4 ?c5 ?_)
            case c1 =>
              intro jj u hjj
              have h := Has.new wr [.int .u8 (0 : Int)] 5
              rw [Addr.add_lit, Nat.zero_add]
              exact (h jj u hjj).1
            case c2 =>
              intro u hu
              simp only [List.mem_singleton] at hu
              subst hu
              rfl
            case c3 => unfold maxLen; omega
            case c4 => omega
            case c5 => simp; have := hB.size; omega
            intro v' w3 hown' hgrow _
            have hB3 : Below w.heap.size w w3 := (hB.alloc hB.size _).grown hgrow (by simp; have := hB.size; omega) (fun j hj => (hown.lt j hj).1)
            clear hgrow hown hB
            go_wp2
            go_roundw
            case rel => exact ⟨k + 1, by omega, by go_num, by rw [Hst.out, Hv.out]; rfl, by rw [Hmk.out, Hst.out, Hv.out]; exact hown', hB3⟩
            case measure => simp [intOf]; omega
      · have f0 : ((q : Int) == 0) = false := by simp; omega
        have f0' : ((q : Int) != 0) = true := by simp; omega
        by_cases hqc : s[k].toNat = q
        · have f1 : ((s[k].toNat : Int) == (q : Int)) = true := by simp; omega
          have Hv := Lib.hid (show bh q s[k].toNat = 0 by rw [hqc]; unfold bh; rw [if_pos rfl])
          clear hq0 hqc
          go_wp2_with (at_builtin; refine wpList_append_own _ rfl _ _ 43 rfl w.heap.size 5 i0 (.int .u8 0) 1 1 Tryz.underlying43 hi hz0 hz1 hz2 rfl (by decide) _ _ _ rfl (hown.alloc _) ⟨wr.heap.size, 0, none⟩ 1 1 [.int .u8 (0 : Int)] rfl rfl ?c1 ?c2 ?c3 ?c4 ?c5 ?_)
          case c1 =>
            intro jj u hjj
            have h := Has.new wr [.int .u8 (0 : Int)] 5
            rw [Addr.add_lit, Nat.zero_add]
            exact (h jj u hjj).1
          case c2 =>
            intro u hu
            simp only [List.mem_singleton] at hu
            subst hu
            rfl
          case c3 => unfold maxLen; omega
          case c4 => omega
          case c5 => simp; have := hB.size; omega
          intro v' w3 hown' hgrow _
          have hB3 : Below w.heap.size w w3 := (hB.alloc hB.size _).grown hgrow (by simp; have := hB.size; omega) (fun j hj => (hown.lt j hj).1)
          clear hgrow hown hB
          go_wp2
          go_roundw
          case rel => exact ⟨k + 1, by omega, by go_num, by rw [Hst.out, Hv.out]; rfl, by rw [Hmk.out, Hst.out, Hv.out]; exact hown', hB3⟩
          case measure => simp [intOf]; omega
        · have f1 : ((s[k].toNat : Int) == (q : Int)) = false := by simp; omega
          have Hv := Lib.hid (show bh q s[k].toNat = q by unfold bh; rw [if_neg (by omega), if_neg (by omega)])
          clear hq0 hqc
          go_wp2_with (at_builtin; refine wpList_append_own _ rfl _ _ 43 rfl w.heap.size 5 i0 (.int .u8 0) 1 1 Tryz.underlying43 hi hz0 hz1 hz2 rfl (by decide) _ _ _ rfl (hown.alloc _) ⟨wr.heap.size, 0, none⟩ 1 1 [.int .u8 (q : Int)] rfl rfl ?c1 ?c2 ?c3 ?c4 ?c5 ?_)
          case c1 =>
            intro jj u hjj
            have h := Has.new wr [.int .u8 (q : Int)] 5
            rw [Addr.add_lit, Nat.zero_add]
            exact (h jj u hjj).1
          case c2 =>
            intro u hu
            simp only [List.mem_singleton] at hu
            subst hu
            rfl
          case c3 => unfold maxLen; omega
          case c4 => omega
          case c5 => simp; have := hB.size; omega
          intro v' w3 hown' hgrow _
          have hB3 : Below w.heap.size w w3 := (hB.alloc hB.size _).grown hgrow (by simp; have := hB.size; omega) (fun j hj => (hown.lt j hj).1)
          clear hgrow hown hB
          go_wp2
          go_roundw
          case rel => exact ⟨k + 1, by omega, by go_num, by rw [Hst.out, Hv.out], by rw [Hmk.out, Hst.out, Hv.out]; exact hown', hB3⟩
          case measure => simp [intOf]; omega
    · obtain rfl : k = s.size := by omega
      go_wp2
      go_ret
      exact ⟨⟨_, rfl, hown⟩, hB⟩
end Go.Proofs.YtdandmbgdndnjaaGreatDoor

/- Contract of Old: the statements of a text in the old form. -/
import Derived.Test.YtdandmbgdndnjaaGreatDoorSrcY
import Derived.Deep.QuietTactic
import Derived.BigQuiet
namespace Go.Proofs.YtdandmbgdndnjaaGreatDoor
open Go.RowKit

/-- What a reader answers. -/
def resR (sts : List St) (l : Nat) : List St × Nat × Nat := if 0 < l then ([], l, 3) else if 200 < sts.length then ([], 0, 4) else (sts, 0, 0)
def ResPost (B : Nat) (r : List St × Nat × Nat) (w : World) (e : Ending) (w' : World) : Prop :=
  ∃ v, e = .returned (.tuple #[v, .int .i64 (r.2.1 : Int), .int .i64 (r.2.2 : Int)]) ∧ w'.ownsRow B 34 3 v r.1.length (scells r.1) ∧ Below w.heap.size w w'
theorem below_dn {B : Nat} {a w : World} (h : Below B a w) (n : Nat) : Below B a (w.drewN n) := ⟨h.os, h.tape, h.output, h.size, h.block⟩
theorem own_base {w : World} {b b' : Nat} {e : TypeId} {sz n : Nat} {v : Value} {xs : List Value} (h : w.ownsRow b e sz v n xs) (hb : b' ≤ b) : w.ownsRow b' e sz v n xs := by
  refine ⟨h.1, ?_⟩
  rcases h.2 with h0 | ⟨g, cap, cur, rfl, hg, hr⟩
  · exact .inl h0
  · exact .inr ⟨g, cap, cur, rfl, by omega, hr⟩

set_option maxRecDepth 100000 in
set_option maxHeartbeats 2000000 in
theorem result_c (rb B : Nat) (ls ss : Value) (sts : List St) (l : Nat) (w : World) (hr : Has w rb [ls, ss, .int .i64 (l : Int)]) (ho : w.ownsRow B 34 3 ss sts.length (scells sts)) :
    Calls Tryz.prog 37 #[.pointer (some ⟨rb, 0, none⟩)] w (ResPost B (resR sts l) w) := by
  obtain ⟨c0, c1, c2⟩ := hr.c3
  have Ho := Lib.hid ho
  by_cases h1 : 0 < l
  · have e1 : resR sts l = ([], l, 3) := by unfold resR; rw [if_pos h1]
    rw [e1]
    have f1 : decide ((0 : Int) < (l : Int)) = true := by simp; omega
    have f2 : decide (0 < l) = true := by simp; omega
    clear e1 ho hr c0 c1
    go_enter Tryz.func37, Tryz.ntmps37
    go_wp2_with fail
    go_quiet (fail)
    go_wp2
    go_ret3
    exact ⟨_, rfl, World.ownsRow_nil _ _ _ _, below_dn (Below.refl _ _) nq⟩
  · have h0 : l = 0 := by omega
    have f1 : decide ((0 : Int) < (l : Int)) = false := by simp; omega
    have f2 : decide (0 < l) = false := by simp; omega
    obtain ⟨g, gc, hss⟩ : ∃ p cap, ss = .slice p sts.length cap := by
      rcases ho.2 with ⟨h, hn⟩ | ⟨g, cap, cur, h, _⟩
      · exact ⟨none, 0, by rw [h, hn]⟩
      · exact ⟨_, cap, h⟩
    subst hss
    by_cases h2 : 200 < sts.length
    · have e1 : resR sts l = ([], 0, 4) := by unfold resR; rw [if_neg h1, if_pos h2]
      rw [e1]
      have g1 : decide ((200 : Int) < (sts.length : Int)) = true := by simp; omega
      have g2 : decide (200 < sts.length) = true := by simp; omega
      clear e1 ho hr c0 h0
      go_enter Tryz.func37, Tryz.ntmps37
      go_wp2
      go_ret3
      exact ⟨_, rfl, World.ownsRow_nil _ _ _ _, Below.refl _ _⟩
    · have e1 : resR sts l = (sts, 0, 0) := by unfold resR; rw [if_neg h1, if_neg h2]
      rw [e1]
      have g1 : decide ((200 : Int) < (sts.length : Int)) = false := by simp; omega
      have g2 : decide (200 < sts.length) = false := by simp; omega
      clear e1 ho hr c0 h0
      go_enter Tryz.func37, Tryz.ntmps37
      go_wp2
      go_ret3
      exact ⟨_, rfl, Ho.out, Below.refl _ _⟩

/-- What Old answers. -/
def oldS (s : ByteArray) : Ro := roAll (lns s) 0 ⟨[], nrW 72 (lns s) 0 0, 0, 0, [], 0⟩
def oldR (s : ByteArray) : List St × Nat × Nat :=
  if 8000 < s.size then ([], 0, 4) else resR (enS (oldS s).sts (oldS s).lab (oldS s).at_ (oldS s).tx) (enW (oldS s).l (oldS s).lab (oldS s).at_ (oldS s).tx)

set_option maxRecDepth 100000 in
set_option maxHeartbeats 2000000 in
theorem Old_c (s : ByteArray) (m : Int) (w : World) (hm : w.cell? ⟨0, 0, none⟩ = some (.int .i64 m)) :
    Calls Tryz.prog 22 #[.string s] w (ResPost w.heap.size (oldR s) w) := by
  by_cases h8 : 8000 < s.size
  · have e1 : oldR s = ([], 0, 4) := by unfold oldR; rw [if_pos h8]
    rw [e1]
    clear e1
    go_enter Tryz.func22, Tryz.ntmps22
    go_wp2
    go_ret3
    exact ⟨_, rfl, World.ownsRow_nil _ _ _ _, Below.refl _ _⟩
  · have e1 : oldR s = resR (enS (oldS s).sts (oldS s).lab (oldS s).at_ (oldS s).tx) (enW (oldS s).l (oldS s).lab (oldS s).at_ (oldS s).tx) := by unfold oldR; rw [if_neg h8]
    rw [e1]
    have hcb : Lib.countB s ⟨#[10]⟩ ≤ 8000 := Nat.le_trans (Lib.countB_le ⟨#[10]⟩ (by decide) s.size s (Nat.le_refl _)) (by omega)
    have HN := Lib.hid (newReader_c s (by omega) 72 m w hm (by omega))
    have hln := lns_len s
    have Hos := Lib.hid (show oldS s = roAll (lns s) 0 ⟨[], nrW 72 (lns s) 0 0, 0, 0, [], 0⟩ from rfl)
    have Hsz := Lib.hid (fun x => @lns_sz s x)
    have hl9 : (lns s).length ≤ 8001 := by omega
    have Hln := Lib.hid hln
    generalize hst : oldS s = st at *
    have Hst := Lib.hid hst
    clear e1 hm hcb hln hst
    go_enter Tryz.func22, Tryz.ntmps22
    go_wp2_with fail
    refine HN.out.mono ?_
    rintro e w1 ⟨rfl, hR, hL, hnl, hB⟩
    have HO := Lib.hid (readOld_c (lns s) w.heap.size (w.heap.size + 1) (nrW 72 (lns s) 0 0) _ (lns s).length (lns s).length w1 rfl rfl (by omega) (fun x hx => by have := Hsz.out x hx; omega) hnl (by omega) hR hL _ st rfl Hos.out)
    have HB := Lib.hid hB
    clear hR hL hnl hB hl9
    go_wp2_with fail
    refine HO.out.mono ?_
    rintro e w2 ⟨ss, rfl, hR2, hO2, hB2⟩
    have hs1 := HB.out.size
    have HR := Lib.hid (result_c (w.heap.size + 1) (w.heap.size + 1 + 1) _ ss _ _ w2 hR2 hO2)
    have hBB : Below w.heap.size w w2 := HB.out.trans (hB2.mono (by omega))
    clear hR2 hO2 hB2
    go_wp2_with fail
    refine HR.out.mono ?_
    rintro e w3 ⟨v, rfl, hO3, hB3⟩
    have hO4 := own_base hO3 (show w.heap.size ≤ w.heap.size + 1 + 1 by omega)
    have hB4 := bt_ hBB hB3
    clear hO3 hB3 hBB
    go_wp2
    go_ret3
    exact ⟨v, rfl, hO4, hB4⟩
end Go.Proofs.YtdandmbgdndnjaaGreatDoor

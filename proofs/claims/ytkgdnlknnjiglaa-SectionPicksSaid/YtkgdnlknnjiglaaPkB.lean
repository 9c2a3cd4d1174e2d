/- Lists of lists of numbers; the closures of Pick. -/
import Derived.Test.YtkgdnlknnjiglaaSecY
namespace Go.Proofs.Ytkgdnlknnjiglaa
open Go.RowKit

/-- A slice that reads as a list of lists of numbers. -/
def RL (w : World) (v : Value) (Ls : List (List Int)) : Prop :=
  ∃ A cap, v = .slice A Ls.length cap ∧ Ls.length ≤ 9223372036854775807 ∧ (0 < Ls.length → ∃ b o : Nat, A = some ⟨b, o, none⟩ ∧ ∀ k l, Ls[k]? = some l → ∃ vl, w.cell? ⟨b, o + k, none⟩ = some vl ∧ RI w vl l)
theorem RL.keep {w w' : World} {v : Value} {Ls : List (List Int)} (h : RL w v Ls) (hb : Below w.heap.size w w') : RL w' v Ls := by
  obtain ⟨A, cap, rfl, hm, hc⟩ := h
  exact ⟨A, cap, rfl, hm, fun h0 => by
    obtain ⟨b, o, rfl, h1⟩ := hc h0
    exact ⟨b, o, rfl, fun k l hl => by
      obtain ⟨vl, h2, h3⟩ := h1 k l hl
      exact ⟨vl, ck hb h2, h3.keep hb⟩⟩⟩
theorem RL.at_ {w : World} {v : Value} {Ls : List (List Int)} {k : Nat} (h : RL w v Ls) (hk : k < Ls.length) :
    ∃ (b o cap : Nat) (l : List Int) (A' : Option Addr) (c' : Nat), v = .slice (some ⟨b, o, none⟩) Ls.length cap ∧ Ls[k]? = some l ∧ w.cell? ⟨b, o + k, none⟩ = some (.slice A' l.length c') ∧ RI w (.slice A' l.length c') l := by
  obtain ⟨A, cap, rfl, hm, hc⟩ := h
  obtain ⟨b, o, rfl, h1⟩ := hc (by omega)
  obtain ⟨vl, h2, h3⟩ := h1 k _ (List.getElem?_eq_getElem hk)
  obtain ⟨A', c', rfl⟩ := h3.slice
  exact ⟨b, o, cap, _, A', c', rfl, List.getElem?_eq_getElem hk, h2, h3⟩
theorem RL.slice {w : World} {v : Value} {Ls : List (List Int)} (h : RL w v Ls) : ∃ A c, v = .slice A Ls.length c := by
  obtain ⟨A, c, rfl, _⟩ := h; exact ⟨A, c, rfl⟩
theorem eg60 : ∀ args w, (callFunc 60 args).run Try.prog w = .ok (.enter 60 args) w := enters_of Try.func60 (by kernel_rfl) rfl
theorem eg61 : ∀ args w, (callFunc 61 args).run Try.prog w = .ok (.enter 61 args) w := enters_of Try.func61 (by kernel_rfl) rfl
set_option maxHeartbeats 1000000 in
theorem pk1_c (s : Int) (D M : Nat) (ve : Value) (E : List Int) (k : Nat) (e : Int) (w : World) (h1 : w.cell? ⟨D, 1, none⟩ = some ve) (hE : RI w ve E) (h2 : w.cell? ⟨M, 0, none⟩ = some (.int .i64 (k : Int))) (he : E[k]? = some e) :
    Calls Try.prog 60 #[.int .i64 s, .pointer (some ⟨D, 0, none⟩), .pointer (some ⟨M, 0, none⟩)] w fun r w' => r = .returned (.bool (!subB s e)) ∧ w = w' := by
  have hk := (List.getElem?_eq_some_iff.1 he).1
  obtain ⟨b, o, c, x, rfl, hx, hc⟩ := hE.at_ hk
  obtain rfl : e = x := by rw [he] at hx; simpa using hx
  have HC := Lib.hid (fun w => isSub_c s e w)
  clear he hx hE
  go_enter Try.func60, Try.ntmps60
  go_wp2_with fail
  refine (HC.out _).mono ?_
  rintro r w' ⟨rfl, rfl⟩
  go_wp2
  go_ret
  exact ⟨rfl, rfl⟩
set_option maxHeartbeats 1000000 in
theorem pk2_c (L : Nat) (vL : Value) (Ls : List (List Int)) (j i : Nat) (l : List Int) (x : Int) (w : World) (h1 : w.cell? ⟨L, 0, none⟩ = some vL) (hL : RL w vL Ls) (hj : Ls[j]? = some l) (hi : l[i]? = some x) :
    Calls Try.prog 61 #[.int .i64 (j : Int), .int .i64 (i : Int), .pointer (some ⟨L, 0, none⟩)] w fun r w' => r = .returned (.int .i64 x) ∧ w = w' := by
  have hj2 := (List.getElem?_eq_some_iff.1 hj).1
  have hi2 := (List.getElem?_eq_some_iff.1 hi).1
  obtain ⟨b, o, c, l', A', c', rfl, hl', hc, hR⟩ := hL.at_ hj2
  obtain rfl : l = l' := by rw [hj] at hl'; simpa using hl'
  obtain ⟨b2, o2, c2, y, e2, hy, hc2⟩ := hR.at_ hi2
  obtain rfl : x = y := by rw [hi] at hy; simpa using hy
  obtain ⟨rfl, rfl⟩ : A' = some ⟨b2, o2, none⟩ ∧ c' = c2 := by simpa using e2
  clear hj hi hl' hy hL hR e2
  go_enter Try.func61, Try.ntmps61
  go_wp2
  go_ret
  exact ⟨rfl, rfl⟩
end Go.Proofs.Ytkgdnlknnjiglaa

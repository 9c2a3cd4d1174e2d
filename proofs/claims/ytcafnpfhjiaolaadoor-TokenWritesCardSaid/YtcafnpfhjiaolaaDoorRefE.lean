/- Contract of the document's answer's number: the number at a place. -/
import Derived.Test.YtcafnpfhjiaolaaDoorRefD
namespace Go.Proofs.YtcafnpfhjiaolaaDoor
open Go.RowKit

theorem resR (tm : Array Value) (R : Nat) (a b : Value) (n : Int) (c : Bool) (w : World) (hp : tm[4]?.getD undef = .pointer (some ⟨R, 0, none⟩)) (h5 : tm[5]?.getD undef = .int .i64 n) (h6 : tm[6]?.getD undef = .bool c) (h : Has w R [a, b]) :
    (results Tryd.f38 tm).run Tryd.prog w = .ok (.tuple #[.agg #[a, b], .int .i64 n, .bool c]) w := by
  obtain ⟨h0, h1⟩ := h.c2
  simp [results, Tryd.results38, go_sem, hp, h5, h6, h0, h1]
theorem rnum_000 (L : List UInt8) (i t : Nat) (ht : rn cD L i = i + t) (hp : pbP L (i + t) = false) (hx : powN L (i + (t)) = 0) (hci : cI (bt L (i + (t))) = false) :
    (numP L i).map (fun r => (r.1, r.2 - i)) = if 10 < t then none else some ((kInt, low (sub L i (i + (t)))), t) := by
  rw [numP_eq' L i (i + t) (i + (t)) (i + (t)) false ht.symm hp rfl (by rw [hx]; omega), hci]
  have e1 : i + t - i = t := by omega
  have e3 : i + (t) - i = t := by omega
  simp only [Bool.false_eq_true, or_false, if_false, Bool.false_or, e1]
  rw [decide_eq_false (by omega)]
  simp only [Bool.false_eq_true, if_false]
  split <;> simp [e3]
theorem rnum_001 (L : List UInt8) (i t : Nat) (ht : rn cD L i = i + t) (hp : pbP L (i + t) = false) (hx : powN L (i + (t)) = 0) (hci : cI (bt L (i + (t))) = true) :
    (numP L i).map (fun r => (r.1, r.2 - i)) = none := by
  rw [numP_eq' L i (i + t) (i + (t)) (i + (t)) false ht.symm hp rfl (by rw [hx]; omega), hci]
  simp
theorem rnum_010 (L : List UInt8) (i t x : Nat) (ht : rn cD L i = i + t) (hp : pbP L (i + t) = false) (hx : powN L (i + (t)) = x) (hx0 : 0 < x) (hci : cI (bt L (i + (t + x))) = false) :
    (numP L i).map (fun r => (r.1, r.2 - i)) = if 60 < t then none else some ((kReal, low (sub L i (i + (t + x)))), t + x) := by
  rw [numP_eq' L i (i + t) (i + (t)) (i + (t + x)) false ht.symm hp rfl (by rw [hx]; omega), hci]
  have e1 : i + t - i = t := by omega
  have e3 : i + (t + x) - i = t + x := by omega
  simp only [Bool.false_eq_true, or_false, if_false, Bool.false_or, e1]
  rw [decide_eq_true (by omega)]
  simp only [if_true]
  split <;> simp [e3]
theorem rnum_011 (L : List UInt8) (i t x : Nat) (ht : rn cD L i = i + t) (hp : pbP L (i + t) = false) (hx : powN L (i + (t)) = x) (_ : 0 < x) (hci : cI (bt L (i + (t + x))) = true) :
    (numP L i).map (fun r => (r.1, r.2 - i)) = none := by
  rw [numP_eq' L i (i + t) (i + (t)) (i + (t + x)) false ht.symm hp rfl (by rw [hx]; omega), hci]
  simp
theorem rnum_100 (L : List UInt8) (i t k : Nat) (ht : rn cD L i = i + t) (hp : pbP L (i + t) = true) (hk : rn cD L (i + t + 1) = i + t + 1 + k) (hx : powN L (i + (t + (1 + k))) = 0) (hci : cI (bt L (i + (t + (1 + k)))) = false) :
    (numP L i).map (fun r => (r.1, r.2 - i)) = if 60 < t + k then none else some ((kReal, low (sub L i (i + (t + (1 + k))))), t + (1 + k)) := by
  rw [numP_eq' L i (i + t) (i + (t + (1 + k))) (i + (t + (1 + k))) true ht.symm hp (by rw [if_pos rfl, hk]; omega) (by rw [hx]; omega), hci]
  have e1 : i + t - i = t := by omega
  have e3 : i + (t + (1 + k)) - i = t + (1 + k) := by omega
  have e2 : i + t - i + (i + (t + (1 + k)) - (i + t) - 1) = t + k := by omega
  simp only [Bool.false_eq_true, or_false, if_true, Bool.true_or, e2]
  split <;> simp [e3]
theorem rnum_101 (L : List UInt8) (i t k : Nat) (ht : rn cD L i = i + t) (hp : pbP L (i + t) = true) (hk : rn cD L (i + t + 1) = i + t + 1 + k) (hx : powN L (i + (t + (1 + k))) = 0) (hci : cI (bt L (i + (t + (1 + k)))) = true) :
    (numP L i).map (fun r => (r.1, r.2 - i)) = none := by
  rw [numP_eq' L i (i + t) (i + (t + (1 + k))) (i + (t + (1 + k))) true ht.symm hp (by rw [if_pos rfl, hk]; omega) (by rw [hx]; omega), hci]
  simp
theorem rnum_110 (L : List UInt8) (i t k x : Nat) (ht : rn cD L i = i + t) (hp : pbP L (i + t) = true) (hk : rn cD L (i + t + 1) = i + t + 1 + k) (hx : powN L (i + (t + (1 + k))) = x) (_ : 0 < x) (hci : cI (bt L (i + (t + (1 + k) + x))) = false) :
    (numP L i).map (fun r => (r.1, r.2 - i)) = if 60 < t + k then none else some ((kReal, low (sub L i (i + (t + (1 + k) + x)))), t + (1 + k) + x) := by
  rw [numP_eq' L i (i + t) (i + (t + (1 + k))) (i + (t + (1 + k) + x)) true ht.symm hp (by rw [if_pos rfl, hk]; omega) (by rw [hx]; omega), hci]
  have e1 : i + t - i = t := by omega
  have e3 : i + (t + (1 + k) + x) - i = t + (1 + k) + x := by omega
  have e2 : i + t - i + (i + (t + (1 + k)) - (i + t) - 1) = t + k := by omega
  simp only [Bool.false_eq_true, or_false, if_true, Bool.true_or, e2]
  split <;> simp [e3]
theorem rnum_111 (L : List UInt8) (i t k x : Nat) (ht : rn cD L i = i + t) (hp : pbP L (i + t) = true) (hk : rn cD L (i + t + 1) = i + t + 1 + k) (hx : powN L (i + (t + (1 + k))) = x) (_ : 0 < x) (hci : cI (bt L (i + (t + (1 + k) + x))) = true) :
    (numP L i).map (fun r => (r.1, r.2 - i)) = none := by
  rw [numP_eq' L i (i + t) (i + (t + (1 + k))) (i + (t + (1 + k) + x)) true ht.symm hp (by rw [if_pos rfl, hk]; omega) (by rw [hx]; omega), hci]
  simp
end Go.Proofs.YtcafnpfhjiaolaaDoor

/- Transposed and reversed descriptors are right, and twice they are what they were. -/
import Derived.Test.YtkgdnlknnjiglaaSecTg
namespace Go.Proofs.Ytkgdnlknnjiglaa
open Go.RowKit

theorem tr_back {d : DS} (h : vldB d = true) (hn : d.ex.length = 2) : vldB (trD d) = true ∧ (trD d).ex.length = 2 ∧ trD (trD d) = d := by
  have hs : d.st.length = 2 := by have := (vld_ok h).2.1; omega
  rw [(trD_yes h hn).1]
  obtain ⟨b, ex, st⟩ := d
  match ex, hn, st, hs with
  | [e0, e1], _, [t0, t1], _ =>
    have hp : pr [e1, e0] = pr [e0, e1] := by simp [pr, Int.mul_comm]
    have hl : loF b [(e1, t1), (e0, t0)] = loF b [(e0, t0), (e1, t1)] := by simp [loF]; omega
    have hh : hiF b [(e1, t1), (e0, t0)] = hiF b [(e0, t0), (e1, t1)] := by simp [hiF]; omega
    have hv : vldB ⟨b, [e0, e1].reverse, [t0, t1].reverse⟩ = true := by
      rw [← h]
      show vldB ⟨b, [e1, e0], [t1, t0]⟩ = vldB ⟨b, [e0, e1], [t0, t1]⟩
      unfold vldB okE fitB
      show (decide (([e1, e0] : List Int).length ≤ 3) && [e1, e0].all extB && decide (pr [e1, e0] ≤ 4000) && decide ([t1, t0].length = [e1, e0].length) && [t1, t0].all nearB && decide (0 ≤ b) && (decide (pr [e1, e0] = 0) || (decide (b ≤ 2147483648) && (decide (0 ≤ loF b [(e1, t1), (e0, t0)]) && decide (hiF b [(e1, t1), (e0, t0)] ≤ 2147483648))))) = _
      rw [hp, hl, hh]
      have c1 : [e1, e0].all extB = [e0, e1].all extB := by simp [Bool.and_comm]
      have c2 : [t1, t0].all nearB = [t0, t1].all nearB := by simp [Bool.and_comm]
      rw [c1, c2]
      rfl
    exact ⟨hv, rfl, (trD_yes hv rfl).1⟩
theorem zip_set : ∀ (a b : List Int) (k : Nat) (e x : Int), a[k]? = some e → a.zip (b.set k x) = (a.zip b).set k (e, x)
  | [], _, _, _, _, h => by simp at h
  | a :: l, [], k, e, x, h => by simp
  | a :: l, b :: m, 0, e, x, h => by simp at h; subst h; rfl
  | a :: l, b :: m, k + 1, e, x, h => by
    have := zip_set l m k e x (by simpa using h)
    simp [this]
theorem loF_set : ∀ (l : List (Int × Int)) (b : Int) (k : Nat) (p q : Int × Int), l[k]? = some p → loF b (l.set k q) = loF b l - min ((p.1 - 1) * p.2) 0 + min ((q.1 - 1) * q.2) 0
  | [], _, _, _, _, h => by simp at h
  | a :: l, b, 0, p, q, h => by
    simp at h; subst h
    have key : ∀ (l : List (Int × Int)) (x y : Int), loF (x + y) l = loF x l + y := by
      intro l
      induction l with
      | nil => intro x y; rfl
      | cons c l ih =>
        intro x y
        show loF (x + y + min ((c.1 - 1) * c.2) 0) l = loF (x + min ((c.1 - 1) * c.2) 0) l + y
        rw [← ih]; congr 1; omega
    show loF (b + min ((q.1 - 1) * q.2) 0) l = loF (b + min ((a.1 - 1) * a.2) 0) l - _ + _
    rw [key, key]; omega
  | a :: l, b, k + 1, p, q, h => loF_set l (b + min ((a.1 - 1) * a.2) 0) k p q (by simpa using h)
theorem hiF_set : ∀ (l : List (Int × Int)) (b : Int) (k : Nat) (p q : Int × Int), l[k]? = some p → hiF b (l.set k q) = hiF b l - max ((p.1 - 1) * p.2) 0 + max ((q.1 - 1) * q.2) 0
  | [], _, _, _, _, h => by simp at h
  | a :: l, b, 0, p, q, h => by
    simp at h; subst h
    have key : ∀ (l : List (Int × Int)) (x y : Int), hiF (x + y) l = hiF x l + y := by
      intro l
      induction l with
      | nil => intro x y; rfl
      | cons c l ih =>
        intro x y
        show hiF (x + y + max ((c.1 - 1) * c.2) 0) l = hiF (x + max ((c.1 - 1) * c.2) 0) l + y
        rw [← ih]; congr 1; omega
    show hiF (b + max ((q.1 - 1) * q.2) 0) l = hiF (b + max ((a.1 - 1) * a.2) 0) l - _ + _
    rw [key, key]; omega
  | a :: l, b, k + 1, p, q, h => hiF_set l (b + max ((a.1 - 1) * a.2) 0) k p q (by simpa using h)
theorem loF_add (l : List (Int × Int)) (x y : Int) : loF (x + y) l = loF x l + y := by
  induction l generalizing x with
  | nil => rfl
  | cons c l ih =>
    show loF (x + y + min ((c.1 - 1) * c.2) 0) l = loF (x + min ((c.1 - 1) * c.2) 0) l + y
    rw [← ih]; congr 1; omega
theorem hiF_add (l : List (Int × Int)) (x y : Int) : hiF (x + y) l = hiF x l + y := by
  induction l generalizing x with
  | nil => rfl
  | cons c l ih =>
    show hiF (x + y + max ((c.1 - 1) * c.2) 0) l = hiF (x + max ((c.1 - 1) * c.2) 0) l + y
    rw [← ih]; congr 1; omega
theorem rv_back {d : DS} {k : Nat} (h : vldB d = true) (hk : k < d.ex.length) : vldB (rvAt d k) = true ∧ (rvAt d k).ex.length = d.ex.length ∧ rvAt (rvAt d k) k = d := by
  obtain ⟨h1, h2, h3, h4⟩ := vld_ok h
  have hkt : k < d.st.length := by omega
  obtain ⟨e, he⟩ : ∃ e, d.ex[k]? = some e := ⟨_, List.getElem?_eq_getElem hk⟩
  obtain ⟨t, ht⟩ : ∃ t, d.st[k]? = some t := ⟨_, List.getElem?_eq_getElem hkt⟩
  have ge : d.ex.getD k 0 = e := by rw [List.getD_eq_getElem?_getD, he]; rfl
  have gt : d.st.getD k 0 = t := by rw [List.getD_eq_getElem?_getD, ht]; rfl
  have hnear := List.all_eq_true.1 h3
  have htn : nearB (-t) = true := by
    have := near_iff.1 (hnear t (List.mem_of_getElem? ht))
    exact near_iff.2 (by omega)
  have hzs := zip_set d.ex d.st k e (-t) he
  have hmul : (e - 1) * (-t) = -((e - 1) * t) := Int.mul_neg _ _
  have hall : (d.st.set k (-t)).all nearB = true := List.all_eq_true.2 fun x hx => by
    rcases List.mem_or_eq_of_mem_set hx with hx | hx
    · exact hnear x hx
    · rw [hx]; exact htn
  have hset : (d.st.set k (-t)).getD k 0 = -t := by
    rw [List.getD_eq_getElem?_getD, List.getElem?_set_self hkt]; rfl
  refine ⟨?_, rfl, ?_⟩
  · unfold rvAt
    rw [ge, gt]
    by_cases hp : pr d.ex = 0
    · rw [if_neg (by omega)]
      rw [vld_5 (d := ⟨d.b, d.ex, d.st.set k (-t)⟩) ⟨h1, by simpa using h2, hall, h4⟩]
      simp [hp]
    · have hpp := (pr_bd d.ex (okE_iff.1 h1).2.1).1
      rw [if_pos (by omega)]
      have h5 := h
      rw [vld_5 ⟨h1, h2, h3, h4⟩] at h5
      simp [hp] at h5
      unfold fitB at h5
      simp at h5
      have hz : (d.ex.zip d.st)[k]? = some (e, t) := zip_at he ht
      have l1 := loF_set (d.ex.zip d.st) (d.b + (e - 1) * t) k (e, t) (e, -t) hz
      have l2 := hiF_set (d.ex.zip d.st) (d.b + (e - 1) * t) k (e, t) (e, -t) hz
      rw [loF_add (d.ex.zip d.st)] at l1; rw [hiF_add (d.ex.zip d.st)] at l2
      simp only at l1 l2
      rw [hmul] at l1 l2
      have hle := lo_le ((d.ex.zip d.st).set k (e, -t)) (d.b + (e - 1) * t)
      generalize (e - 1) * t = m at *
      have e1 : loF (d.b + m) ((d.ex.zip d.st).set k (e, -t)) = loF d.b (d.ex.zip d.st) := by rw [l1]; omega
      have e2 : hiF (d.b + m) ((d.ex.zip d.st).set k (e, -t)) = hiF d.b (d.ex.zip d.st) := by rw [l2]; omega
      rw [e1, e2] at hle
      rw [vld_5 (d := ⟨d.b + m, d.ex, d.st.set k (-t)⟩) ⟨h1, by simpa using h2, hall, by show (0 : Int) ≤ d.b + m; omega⟩]
      unfold fitB
      simp only
      rw [hzs, e1, e2]
      simp [hp]
      omega
  · unfold rvAt
    simp only
    rw [ge, gt, hset]
    have hss : (d.st.set k (-t)).set k (- -t) = d.st := by
      rw [List.set_set, Int.neg_neg]
      have := List.getElem?_eq_some_iff.1 ht
      obtain ⟨_, e3⟩ := this
      rw [← e3]; exact List.set_getElem_self _
    rw [hss]
    obtain ⟨b, ex, st⟩ := d
    simp only at *
    by_cases hp : 0 < pr ex
    · rw [if_pos hp, if_pos hp, hmul]
      congr 1; omega
    · rw [if_neg hp, if_neg hp]
end Go.Proofs.Ytkgdnlknnjiglaa

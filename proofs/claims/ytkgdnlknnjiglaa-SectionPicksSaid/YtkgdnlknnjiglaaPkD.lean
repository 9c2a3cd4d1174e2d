/- What Pick gives: the places of all combinations, as the document lists them, are those that the code gathers. -/
import Derived.Test.YtkgdnlknnjiglaaPkC
namespace Go.Proofs.Ytkgdnlknnjiglaa
open Go.RowKit

def chunkP (out : List Int) (s x : Int) : List Int := out.map fun y => w64 (y + x * s)
def stepP (out : List Int) (s : Int) (l : List Int) : List Int := l.flatMap fun x => chunkP out s x
theorem stepP_succ {out : List Int} {s x : Int} {l : List Int} {i : Nat} (h : l[i]? = some x) : stepP out s (l.take (i + 1)) = stepP out s (l.take i) ++ chunkP out s x := by
  unfold stepP; rw [List.take_add_one, h, List.flatMap_append]; simp
theorem chunkP_len (out : List Int) (s x : Int) : (chunkP out s x).length = out.length := by simp [chunkP]
theorem stepP_len (out : List Int) (s : Int) : ∀ l : List Int, (stepP out s l).length = l.length * out.length
  | [] => by simp [stepP]
  | x :: l => by
    have := stepP_len out s l
    unfold stepP at this ⊢
    rw [List.flatMap_cons, List.length_append, this, chunkP_len, List.length_cons, Nat.succ_mul, Nat.add_comm]
theorem chunkP_take {out : List Int} {s x y : Int} {n : Nat} (h : out[n]? = some y) : (chunkP out s x).take (n + 1) = (chunkP out s x).take n ++ [w64 (y + x * s)] := by
  rw [List.take_add_one]; congr 1
  unfold chunkP; rw [List.getElem?_map, h]; rfl
def pkK (Ls : List (List Int)) (st : List Int) (b : Int) (k : Nat) : List Int := ((Ls.zip st).take k).foldl (fun out p => stepP out p.2 p.1) [b]
theorem zip_atL {a : List (List Int)} {b : List Int} {k : Nat} {x : List Int} {y : Int} (h1 : a[k]? = some x) (h2 : b[k]? = some y) : (a.zip b)[k]? = some (x, y) := by
  rw [List.getElem?_zip_eq_some]; exact ⟨h1, h2⟩
theorem pkK_succ {Ls : List (List Int)} {st : List Int} {b : Int} {k : Nat} {l : List Int} {s : Int} (h1 : Ls[k]? = some l) (h2 : st[k]? = some s) : pkK Ls st b (k + 1) = stepP (pkK Ls st b k) s l := by
  unfold pkK
  rw [List.take_add_one, zip_atL h1 h2, List.foldl_append]; rfl
/-- How many combinations the first k lists have. -/
def pn (Ls : List (List Int)) (k : Nat) : Nat := (Ls.take k).foldl (fun n l => n * l.length) 1
theorem pn_succ {Ls : List (List Int)} {k : Nat} {l : List Int} (h : Ls[k]? = some l) : pn Ls (k + 1) = pn Ls k * l.length := by
  unfold pn; rw [List.take_add_one, h, List.foldl_append]; rfl
theorem pn_zero (Ls : List (List Int)) : pn Ls 0 = 1 := by simp [pn]
theorem pkK_len {Ls : List (List Int)} {st : List Int} {b : Int} (hl : Ls.length = st.length) : ∀ k, k ≤ Ls.length → (pkK Ls st b k).length = pn Ls k
  | 0, _ => by simp [pkK, pn]
  | k + 1, hk => by
    have h1 : Ls[k]? = some Ls[k] := List.getElem?_eq_getElem (by omega)
    have h2 : st[k]? = some (st[k]'(by omega)) := List.getElem?_eq_getElem (by omega)
    rw [pkK_succ h1 h2, stepP_len, pn_succ h1, pkK_len hl k (by omega), Nat.mul_comm]
theorem pn_pos {Ls : List (List Int)} : ∀ k, (∀ l ∈ Ls, 1 ≤ l.length) → 1 ≤ pn Ls k
  | 0, _ => by rw [pn_zero]; exact Nat.le_refl _
  | k + 1, h => by
    by_cases hk : k < Ls.length
    · have h1 : Ls[k]? = some Ls[k] := List.getElem?_eq_getElem hk
      rw [pn_succ h1]
      exact Nat.mul_pos (pn_pos k h) (h _ (List.getElem_mem hk))
    · have : pn Ls (k + 1) = pn Ls k := by unfold pn; rw [List.take_of_length_le (by omega), List.take_of_length_le (by omega)]
      rw [this]; exact pn_pos k h
theorem pn_ne {Ls : List (List Int)} (h : pn Ls Ls.length ≠ 0) : ∀ l ∈ Ls, 1 ≤ l.length := by
  intro l hl
  unfold pn at h
  rw [List.take_length] at h
  have key : ∀ (M : List (List Int)) (a : Nat), l ∈ M → l.length = 0 → M.foldl (fun n l => n * l.length) a = 0 := by
    intro M
    induction M with
    | nil => intro a h; simp at h
    | cons m M ih =>
      intro a hm h0
      rcases List.mem_cons.1 hm with rfl | hm
      · rw [List.foldl_cons, h0, Nat.mul_zero]
        clear ih hm h0 h hl
        induction M with
        | nil => rfl
        | cons c M ih => rw [List.foldl_cons, Nat.zero_mul]; exact ih
      · rw [List.foldl_cons]; exact ih _ hm h0
  rcases Nat.eq_zero_or_pos l.length with h0 | h0
  · exact absurd (key Ls 1 hl h0) h
  · exact h0
def lensOf (Ls : List (List Int)) : List Int := Ls.map fun l => (l.length : Int)
theorem lens_at {Ls : List (List Int)} {k : Nat} {l : List Int} (h : Ls[k]? = some l) : (lensOf Ls)[k]? = some (l.length : Int) := by unfold lensOf; rw [List.getElem?_map, h]; rfl
theorem pr_lens {Ls : List (List Int)} : ∀ k, pr ((lensOf Ls).take k) = (pn Ls k : Int)
  | 0 => by simp [pr, pn]
  | k + 1 => by
    by_cases hk : k < Ls.length
    · have h1 : Ls[k]? = some Ls[k] := List.getElem?_eq_getElem hk
      rw [pr_take (lens_at h1), pn_succ h1, pr_lens k]; simp
    · have e1 : (lensOf Ls).take (k + 1) = (lensOf Ls).take k := by
        rw [List.take_of_length_le (by simp [lensOf]; omega), List.take_of_length_le (by simp [lensOf]; omega)]
      have e2 : pn Ls (k + 1) = pn Ls k := by unfold pn; rw [List.take_of_length_le (by omega), List.take_of_length_le (by omega)]
      rw [e1, e2]; exact pr_lens k
theorem stepP_at {out : List Int} {s : Int} (hL : 0 < out.length) : ∀ (l : List Int) (m : Nat), m < l.length * out.length → (stepP out s l)[m]? = some (w64 (out.getD (m % out.length) 0 + l.getD (m / out.length) 0 * s))
  | [], m, h => by simp at h
  | x :: l, m, h => by
    have e : stepP out s (x :: l) = chunkP out s x ++ stepP out s l := by unfold stepP; rw [List.flatMap_cons]
    rw [e]
    by_cases hm : m < out.length
    · rw [List.getElem?_append_left (by rw [chunkP_len]; exact hm)]
      unfold chunkP
      rw [List.getElem?_map, List.getElem?_eq_getElem hm, Nat.mod_eq_of_lt hm, Nat.div_eq_of_lt hm, List.getD_eq_getElem?_getD, List.getElem?_eq_getElem hm]; rfl
    · rw [List.length_cons, Nat.succ_mul] at h
      rw [List.getElem?_append_right (by rw [chunkP_len]; omega), chunkP_len, stepP_at hL l (m - out.length) (by omega)]
      have h1 : (m - out.length) % out.length = m % out.length := by rw [← Nat.mod_eq_sub_mod (by omega)]
      have h2 : m / out.length = (m - out.length) / out.length + 1 := by rw [Nat.div_eq_sub_div hL (by omega)]
      rw [h1, h2]
      simp
theorem pkP_at {Ls : List (List Int)} {d : DS} (hl : Ls.length = d.st.length) (h1 : ∀ l ∈ Ls, 1 ≤ l.length) (k : Nat) : ∀ j, j ≤ Ls.length →
    (pkK Ls d.st d.b j)[k % (pkK Ls d.st d.b j).length]? = some (gv d (sgL Ls (digs (lensOf Ls) k)) j)
  | 0, _ => by simp [pkK, gv, Nat.mod_one]
  | j + 1, hj => by
    have ih := pkP_at hl h1 k j (by omega)
    have hLj : Ls[j]? = some Ls[j] := List.getElem?_eq_getElem (by omega)
    have hs : d.st[j]? = some (d.st[j]'(by omega)) := List.getElem?_eq_getElem (by omega)
    have hlen := pkK_len (b := d.b) hl j (by omega)
    have hpos : 0 < (pkK Ls d.st d.b j).length := by rw [hlen]; exact pn_pos j h1
    have hl1 : 1 ≤ (Ls[j]'(by omega)).length := h1 _ (List.getElem_mem (by omega))
    have hC : ∀ e ∈ lensOf Ls, 1 ≤ e := by
      intro e he
      obtain ⟨l, hl, rfl⟩ := List.mem_map.1 he
      have := h1 l hl
      omega
    have hdg := digs_at (lensOf Ls) k j _ hC (lens_at hLj)
    rw [pr_lens, Int.toNat_natCast, Int.toNat_natCast] at hdg
    have hsg := sgL_at (Ls := Ls) hdg
    rw [Int.toNat_natCast, List.getD_eq_getElem?_getD (l := Ls), hLj] at hsg
    simp only [Option.getD_some] at hsg
    rw [gv_succ hsg hs, pkK_succ hLj hs, stepP_len]
    have hp2 : 0 < (Ls[j]'(by omega)).length * (pkK Ls d.st d.b j).length := Nat.mul_pos (by omega) hpos
    rw [stepP_at hpos _ _ (Nat.mod_lt _ hp2)]
    have e1 : k % ((Ls[j]'(by omega)).length * (pkK Ls d.st d.b j).length) % (pkK Ls d.st d.b j).length = k % (pkK Ls d.st d.b j).length := by
      rw [Nat.mul_comm]; exact Nat.mod_mul_right_mod k _ _
    have e2 : k % ((Ls[j]'(by omega)).length * (pkK Ls d.st d.b j).length) / (pkK Ls d.st d.b j).length = k / (pkK Ls d.st d.b j).length % (Ls[j]'(by omega)).length := by
      rw [Nat.mul_comm]; exact Nat.mod_mul_right_div_self k _ _
    rw [e1, e2, List.getD_eq_getElem?_getD (l := pkK Ls d.st d.b j), ih, hlen]
    rfl
/-- What gather lists is what the document lists. -/
theorem gatP_eq {Ls : List (List Int)} {d : DS} (hl : Ls.length = d.st.length) : gatP Ls d (lensOf Ls) (pn Ls Ls.length) = pkK Ls d.st d.b Ls.length := by
  have hlen := pkK_len (b := d.b) hl Ls.length (Nat.le_refl _)
  by_cases h0 : pn Ls Ls.length = 0
  · rw [h0] at hlen
    rw [List.eq_nil_of_length_eq_zero hlen, h0]; rfl
  · have h1 := pn_ne h0
    have hC : ∀ e ∈ lensOf Ls, 1 ≤ e := by
      intro e he
      obtain ⟨l, hl, rfl⟩ := List.mem_map.1 he
      have := h1 l hl
      omega
    apply List.ext_getElem?
    intro k
    by_cases hk : k < pn Ls Ls.length
    · have h2 := pkP_at hl h1 k Ls.length (Nat.le_refl _)
      rw [Nat.mod_eq_of_lt (by omega)] at h2
      rw [h2]
      unfold gatP
      rw [List.getElem?_map, List.getElem?_range hk, Option.map_some, atI_digs hC]
      simp [lensOf]
    · rw [List.getElem?_eq_none (by simp [gatP]; omega), List.getElem?_eq_none (by omega)]
end Go.Proofs.Ytkgdnlknnjiglaa

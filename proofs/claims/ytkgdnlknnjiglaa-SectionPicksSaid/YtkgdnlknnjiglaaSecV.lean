/- Contract of gather, where subscripts stand for themselves. -/
import Derived.Test.YtkgdnlknnjiglaaSecU
import Derived.StillTailTactics
namespace Go.Proofs.Ytkgdnlknnjiglaa
open Go.RowKit

/-- The place of subscripts, as far as dimension k. -/
def gv (d : DS) (a : List Int) : Nat → Int
  | 0 => d.b
  | k + 1 => w64 (gv d a k + a.getD k 0 * d.st.getD k 0)
/-- The k-th subscripts. -/
def atI (C : List Int) : Nat → List Int
  | 0 => zeros C.length
  | k + 1 => nextS C (atI C k)
def gatL (d : DS) (C : List Int) (n : Nat) : List Int := (List.range n).map fun k => gv d (atI C k) C.length
theorem nextS_len {E S : List Int} : (nextS E S).length = S.length := by
  unfold nextS
  split
  · split
    · exact bump_len (by assumption)
    · simp [zeros]
  · rfl
theorem atI_len (C : List Int) : ∀ k, (atI C k).length = C.length
  | 0 => by simp [atI, zeros]
  | k + 1 => by rw [atI, nextS_len, atI_len C k]
theorem inR_next {E S : List Int} (h : inR S E = true) (hp : ∀ e ∈ E, 1 ≤ e) : inR (nextS E S) E = true := by
  obtain ⟨h1, h2⟩ := inR_iff.1 h
  refine inR_iff.2 ⟨by rw [nextS_len, h1], fun j x y hx hy => ?_⟩
  have hy1 := hp y (List.mem_of_getElem? hy)
  unfold nextS at hx
  rw [if_pos h] at hx
  split at hx
  · rename_i hf
    obtain ⟨s, hs⟩ : ∃ s, S[frN S E]? = some s := ⟨_, List.getElem?_eq_getElem hf⟩
    rw [bump_eq hs] at hx
    by_cases hj : j < frN S E
    · rw [List.getElem?_append_left (by simpa [zeros] using hj)] at hx
      unfold zeros at hx
      rw [List.getElem?_replicate, if_pos hj] at hx
      have : 0 = x := by simpa using hx
      exact sub_iff.2 ⟨by omega, by omega⟩
    · rw [List.getElem?_append_right (by simp [zeros]; omega)] at hx
      simp only [zeros, List.length_replicate] at hx
      by_cases hj2 : j = frN S E
      · subst hj2
        rw [Nat.sub_self] at hx
        obtain rfl : s + 1 = x := by simpa using hx
        have h3 := sub_iff.1 (h2 _ s y hs hy)
        -- the dimension found is not at its end
        have h4 : s + 1 < y := by
          have key : ∀ (S E : List Int), frN S E < S.length → ∀ s y, S[frN S E]? = some s → E[frN S E]? = some y → s + 1 < y := by
            intro S
            induction S with
            | nil => intro E h; simp at h
            | cons a S ih =>
              intro E h s y hs hy
              cases E with
              | nil => simp at hy
              | cons b E =>
                unfold frN at h hs hy
                split at h
                · rename_i hab
                  rw [if_pos hab] at hs hy
                  simp at hs hy; subst hs; subst hy; exact hab
                · rename_i hab
                  rw [if_neg hab] at hs hy
                  exact ih E (by simpa using h) s y (by simpa using hs) (by simpa using hy)
          exact key S E hf s y hs hy
        exact sub_iff.2 ⟨by omega, h4⟩
      · obtain ⟨m, rfl⟩ : ∃ m, j = frN S E + (m + 1) := ⟨j - frN S E - 1, by omega⟩
        rw [show frN S E + (m + 1) - frN S E = m + 1 by omega] at hx
        simp only [List.getElem?_cons_succ, List.getElem?_drop] at hx
        exact h2 _ x y (by rw [show frN S E + (m + 1) = frN S E + 1 + m by omega]; exact hx) hy
  · unfold zeros at hx
    rw [List.getElem?_replicate] at hx
    split at hx
    · have : 0 = x := by simpa using hx
      exact sub_iff.2 ⟨by omega, by omega⟩
    · cases hx
theorem atI_in {C : List Int} (hp : ∀ e ∈ C, 1 ≤ e) : ∀ k, inR (atI C k) C = true
  | 0 => inR_iff.2 ⟨by simp [atI, zeros], fun j x y hx hy => by
      have hy1 := hp y (List.mem_of_getElem? hy)
      unfold atI zeros at hx
      rw [List.getElem?_replicate] at hx
      split at hx
      · have : 0 = x := by simpa using hx
        exact sub_iff.2 ⟨by omega, by omega⟩
      · cases hx⟩
  | k + 1 => inR_next (atI_in hp k) hp
theorem gv_fit {d : DS} (hb : Fit d.b) (a : List Int) : ∀ k, Fit (gv d a k)
  | 0 => hb
  | _ + 1 => w64_fit _
theorem gv_succ {d : DS} {a : List Int} {k : Nat} {i s : Int} (h1 : a[k]? = some i) (h2 : d.st[k]? = some s) : gv d a (k + 1) = w64 (gv d a k + i * s) := by
  rw [gv, List.getD_eq_getElem?_getD, h1, List.getD_eq_getElem?_getD, h2]; rfl

/-- Places, of which k are done. -/
def orow (g : Nat → Int) (n k : Nat) : List Int := (List.range k).map g ++ zeros (n - k)
def prow (g : Nat → Int) (n k : Nat) (x : Int) : List Int := (List.range k).map g ++ x :: zeros (n - k - 1)
theorem orow_len (g : Nat → Int) {n k : Nat} (h : k ≤ n) : (orow g n k).length = n := by simp [orow, zeros]; omega
theorem prow_len (g : Nat → Int) {n k : Nat} (h : k < n) (x : Int) : (prow g n k x).length = n := by simp [prow, zeros]; omega
theorem orow_set (g : Nat → Int) {n k : Nat} (h : k < n) (x : Int) : (orow g n k).set k x = prow g n k x := by
  unfold orow prow
  rw [List.set_append_right _ _ (by simp), List.length_map, List.length_range, Nat.sub_self, show n - k = (n - k - 1) + 1 by omega]
  simp [zeros, List.replicate_succ]
theorem prow_set (g : Nat → Int) {n k : Nat} (x y : Int) : (prow g n k x).set k y = prow g n k y := by
  unfold prow
  rw [List.set_append_right _ _ (by simp), List.length_map, List.length_range, Nat.sub_self, List.set_cons_zero]
theorem prow_at (g : Nat → Int) {n k : Nat} (x : Int) : (prow g n k x)[k]? = some x := by
  unfold prow
  rw [List.getElem?_append_right (by simp), List.length_map, List.length_range, Nat.sub_self]; rfl
theorem prow_done (g : Nat → Int) {n k : Nat} : prow g n k (g k) = orow g n (k + 1) := by
  unfold prow orow
  rw [List.range_succ, List.map_append, List.append_assoc, show n - (k + 1) = n - k - 1 by omega]; rfl
theorem orow_all (g : Nat → Int) (n : Nat) : orow g n n = (List.range n).map g := by simp [orow, zeros]
theorem make29 (n : Nat) (hn : n ≤ 1000000) (w : World) : (Instr.makeSlice 29 (.int .i64 (n : Int)) (.int .i64 (n : Int))).run Try.prog w = .ok (.slice (some ⟨w.heap.size, 0, none⟩) n n) (w.alloc (.cells (icells (zeros n)).toArray 3)) := by
  obtain ⟨i0, hi, hz0, hz1, hz2⟩ := info_parts info3
  have h := run_makeSlice (P := Try.prog) w 29 3 i0 _ Try.underlying29 hi hz0 .i64 .i64 (n : Int) (n : Int) (by omega) (by omega) (by rw [hz1]; omega) (by rw [hz2]; omega) (by omega)
  rw [h]
  have e : madeCells (Value.int .i64 0).cells ((n : Int).toNat * i0.size) = (icells (zeros n)).toArray := by
    rw [hz1, Nat.mul_one, Int.toNat_natCast]
    have : icells (zeros n) = List.replicate n (Value.int .i64 0) := by simp [icells, zeros]
    rw [this, ← toList_madeCells_one]
    rfl
  rw [e, Int.toNat_natCast]
theorem pl1_c (a i : Int) (w : World) : Calls Try.prog 54 #[.int .i64 a, .int .i64 i] w fun e w' => e = .returned (.int .i64 i) ∧ w = w' := by
  go_enter Try.func54, Try.ntmps54
  go_wp2
  go_ret
  exact ⟨rfl, rfl⟩
end Go.Proofs.Ytkgdnlknnjiglaa

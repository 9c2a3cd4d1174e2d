/- Contract of the document's answer's number, whole; which sign or word stands at a place, in the document's answer's way. -/
import Derived.Test.YtcafnpfhjiaolaaDoorRefDA
import Derived.Test.YtcafnpfhjiaolaaDoorRefDB
import Derived.Test.YtcafnpfhjiaolaaDoorRefDC
import Derived.Test.YtcafnpfhjiaolaaDoorRefDD
import Derived.Test.YtcafnpfhjiaolaaDoorRefF
namespace Go.Proofs.YtcafnpfhjiaolaaDoor
open Go.RowKit

theorem pow_in (L : List UInt8) (i : Nat) (hi : i ≤ L.length) : i + powN L i ≤ L.length := by
  unfold powN
  split
  · generalize (if cS (bt L (i + 1)) = true then 2 else 1) = n
    have hg := rn_ge cD L (i + n)
    by_cases h0 : rn cD L (i + n) - (i + n) = 0
    · simp only [h0, if_true]; omega
    · simp only [h0, if_false]
      have := (rn_in (p := cD) (L := L) (i := i + n) (i + n) (by omega) (by omega)).2
      have := rn_le cD L (i + n) (by omega)
      omega
  · omega

theorem number_c (s : ByteArray) (i : Nat) (hi : i ≤ s.size) (hs : s.size ≤ 400000) (hn : cD (bt s.data.toList i) = true ∨ bt s.data.toList i = 46 ∧ cD (bt s.data.toList (i + 1)) = true) (w : World) :
    Calls Tryd.prog 38 #[.string s, .int .i64 (i : Int)] w fun e w' => e = .returned (tokV ((numP s.data.toList i).map fun r => (r.1, r.2 - i))) ∧ Below w.heap.size w w' := by
  have hl : s.data.toList.length = s.size := by simp
  obtain ⟨t, ht⟩ : ∃ t, rn cD s.data.toList i = i + t := ⟨rn cD s.data.toList i - i, by have := rn_ge cD s.data.toList i; omega⟩
  have hle := rn_le cD s.data.toList i (by omega)
  rw [ht] at hle
  rcases hp : pbP s.data.toList (i + t) with _ | _
  · have hm := pow_in s.data.toList (i + t) hle
    by_cases hr : bt s.data.toList (i + t) = 46
    · rcases hst : stP rWords (s.data.toList.drop (i + t)) with _ | ⟨y, ys⟩
      · have hw := (st_words _ _).1 hst
        have ho : cO (bt s.data.toList (i + t + 1)) = true := by
          unfold pbP at hp
          rw [hw, hr] at hp
          simpa [eqB] using hp
        have h0 : 0 < t := by
          rcases Nat.eq_zero_or_pos t with h0 | h0
          · subst h0
            rcases hn with h | ⟨_, h⟩
            · rw [Nat.add_zero] at hr; rw [hr] at h; cases h
            · rw [Nat.add_zero] at ho
              unfold cO cL cD at *
              simp only [Bool.and_eq_true, decide_eq_true_eq] at h ho
              omega
          · exact h0
        exact number_C s i t hs w hr hst (by rw [ho]; simp; omega) ht hp (by omega)
      · exact number_B s i t hs w hr y ys hst ht hp (by omega)
    · exact number_A s i t hs w hr ht hp (by omega)
  · have hin := pbP_in hp
    have h3 : bt s.data.toList (i + t) = 46 ∧ cO (bt s.data.toList (i + t + 1)) = false ∧ (wordP s.data.toList (i + t)).isSome = false := by
      unfold pbP eqB at hp
      simp only [Bool.and_eq_true, decide_eq_true_eq, Bool.not_eq_true'] at hp
      exact ⟨hp.1.1, hp.1.2, hp.2⟩
    obtain ⟨k, hk⟩ : ∃ k, rn cD s.data.toList (i + t + 1) = i + t + 1 + k := ⟨rn cD s.data.toList (i + t + 1) - (i + t + 1), by have := rn_ge cD s.data.toList (i + t + 1); omega⟩
    have hle2 := rn_le cD s.data.toList (i + t + 1) (by omega)
    rw [hk] at hle2
    have hm := pow_in s.data.toList (i + (t + (1 + k))) (by omega)
    exact number_D s i t k hs w h3.1 ((st_words _ _).2 h3.2.2) (by rw [h3.2.1]; simp) ht hp hk (by omega)

theorem words_noL : ∀ t ∈ wordsL, t.2.head? = some 46 := by decide
theorem op_point {L : List UInt8} {i : Nat} (h : bt L i = 46) : opP L i = (wordP L i).map fun w => (w, i + w.2.length) := by
  unfold opP
  rcases hw : wordP L i with _ | w
  · have hp : pairP L i = none := by
      unfold pairP
      rw [List.find?_eq_none]
      intro t ht hpre
      obtain ⟨r, hr⟩ := List.isPrefixOf_iff_prefix.1 hpre
      have h1 : (L.drop i).head? = some 46 := by
        rw [List.head?_drop]
        unfold bt at h
        rw [List.getD_eq_getElem?_getD] at h
        rcases hx : L[i]? with _ | x
        · rw [hx] at h; cases h
        · rw [hx] at h; simp only [Option.getD_some] at h
          congr 1
          exact UInt8.toNat_inj.1 h
      have h2 : ∀ t ∈ pairsL, t.head? ≠ some 46 ∧ t ≠ [] := by decide
      rcases t with _ | ⟨a, b⟩
      · exact (h2 _ ht).2 rfl
      · rw [← hr] at h1
        exact (h2 _ ht).1 h1
    rw [hp, h, if_neg (by decide)]
    rfl
  · rfl
theorem find_one {α : Type} [DecidableEq α] (b : α) : ∀ l : List α, l.find? (fun x => decide (b = x)) = if b ∈ l then some b else none
  | [] => rfl
  | x :: l => by
    rw [List.find?_cons, find_one b l]
    by_cases h : b = x
    · subst h; simp
    · simp [h]
theorem bt_at {L : List UInt8} {i : Nat} (hi : i < L.length) : (bt L i).toUInt8 = L[i] := by
  unfold bt
  rw [List.getD_eq_getElem?_getD, List.getElem?_eq_getElem hi]
  simp
theorem isW_one {L : List UInt8} {i : Nat} (hi : i < L.length) {x : UInt8} (hx : noL x = true) : isW L i [x] = decide ((bt L i).toUInt8 = x) := by
  have h1 : sub L i (i + [x].length) = [L[i]] := by
    unfold sub
    rw [List.drop_eq_getElem_cons hi, show i + [x].length - i = 1 by simp]
    rfl
  unfold isW
  rw [h1, bt_at hi, decide_eq_decide]
  unfold low
  simp only [List.map_cons, List.map_nil, List.length_singleton, List.cons.injEq, and_true]
  constructor
  · rintro ⟨_, h⟩; exact noL_eq hx h
  · intro h; exact ⟨hi, by rw [h]; exact noL_lo hx⟩
theorem word_point {L : List UInt8} {i : Nat} (h : bt L i ≠ 46) : wordP L i = none := by
  unfold wordP
  rw [List.find?_eq_none]
  intro w hw hc
  have h1 := words_noL w hw
  rcases hw2 : w.2 with _ | ⟨y, ys⟩
  · rw [hw2] at h1; cases h1
  · rw [hw2] at h1 hc
    simp only [List.head?_cons, Option.some.injEq] at h1
    subst h1
    have h2 := (isW_at hc 0 (by simp)).1
    simp only [List.getElem?_cons_zero, Nat.add_zero] at h2
    rcases hx : L[i]? with _ | x
    · rw [hx] at h2; cases h2
    · rw [hx] at h2
      simp only [Option.map_some, Option.some.injEq] at h2
      have h3 := noL_eq (x := 46) (by decide) h2.symm
      apply h
      unfold bt
      rw [List.getD_eq_getElem?_getD, hx, h3]; rfl
theorem rOps_eq : rOps = pairsL ++ singlesL.map fun x => [x] := rfl
/-- Which sign stands at a place that is no point. -/
theorem op_other {L : List UInt8} {i : Nat} (hi : i < L.length) (h : bt L i ≠ 46) :
    opP L i = if stP rOps (L.drop i) = [] then none else some ((kOp, stP rOps (L.drop i)), i + (stP rOps (L.drop i)).length) := by
  have hne : ∀ t ∈ rOps, t ≠ [] := by decide
  have hst : stP rOps (L.drop i) = ((pairP L i).or ((singlesL.find? fun x => decide ((bt L i).toUInt8 = x)).map fun x => [x])).getD [] := by
    unfold stP
    rw [find_same (q := fun t => isW L i t) fun t ht => isW_drop L i t (hne t ht), rOps_eq, List.find?_append]
    congr 2
    · unfold pairP
      exact find_same fun t ht => (pre_isW L i (by omega) (pairs_noL t ht).1).symm
    · rw [List.find?_map]
      congr 1
      exact find_same fun x hx => isW_one hi ((show ∀ z ∈ singlesL, noL z = true by decide) x hx)
  rw [hst, find_one]
  unfold opP
  rw [word_point h]
  rcases hp : pairP L i with _ | p
  · by_cases hm : (bt L i).toUInt8 ∈ singlesL
    · simp [hm]
    · simp [hm]
  · have : p ≠ [] := (show ∀ t ∈ pairsL, t ≠ [] by decide) p (List.mem_of_find?_eq_some hp)
    simp [this]
end Go.Proofs.YtcafnpfhjiaolaaDoor

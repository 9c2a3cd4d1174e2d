/- The plain mathematics of tokens, further: two texts that are alike over a stretch, but for the size of letters, and end there, or have a blank, have the same tokens over it. -/
import Derived.Test.YtcafnpfhjiaolaaDoorTokN
namespace Go.Proofs.YtcafnpfhjiaolaaDoor

/-- Alike over n bytes, from a on in L, from b on in M; behind them an end or a blank. -/
structure Sim (L : List UInt8) (a : Nat) (M : List UInt8) (b n : Nat) : Prop where
  inL : a + n ≤ L.length
  inM : b + n ≤ M.length
  alike : ∀ j, j < n → (L[a + j]?).map loB = (M[b + j]?).map loB
  endL : a + n = L.length ∨ bt L (a + n) = 32
  endM : b + n = M.length ∨ bt M (b + n) = 32
theorem Sim.symm {L M : List UInt8} {a b n : Nat} (S : Sim L a M b n) : Sim M b L a n :=
  ⟨S.inM, S.inL, fun j hj => (S.alike j hj).symm, S.endM, S.endL⟩

def loN (c : Nat) : Nat := if 65 ≤ c ∧ c ≤ 90 then c + 32 else c
theorem loB_toNat (b : UInt8) : (loB b).toNat = loN b.toNat := by
  unfold loB loN
  split
  · rename_i h
    rw [UInt8.toNat_add]
    have : (32 : UInt8).toNat = 32 := rfl
    omega
  · rfl
theorem bt_some {L : List UInt8} {i : Nat} {x : UInt8} (h : L[i]? = some x) : bt L i = x.toNat := by
  unfold bt; rw [List.getD_eq_getElem?_getD, h]; rfl
theorem Sim.get {L M : List UInt8} {a b n : Nat} (S : Sim L a M b n) {j : Nat} (hj : j < n) : ∃ x y, L[a + j]? = some x ∧ M[b + j]? = some y ∧ loB x = loB y := by
  have h1 := S.inL; have h2 := S.inM
  have hx : L[a + j]? = some (L[a + j]'(by omega)) := List.getElem?_eq_getElem (by omega)
  have hy : M[b + j]? = some (M[b + j]'(by omega)) := List.getElem?_eq_getElem (by omega)
  have h := S.alike j hj
  rw [hx, hy] at h
  exact ⟨_, _, hx, hy, by simpa using h⟩
theorem Sim.bt {L M : List UInt8} {a b n : Nat} (S : Sim L a M b n) {j : Nat} (hj : j < n) : loN (bt L (a + j)) = loN (bt M (b + j)) := by
  obtain ⟨x, y, hx, hy, h⟩ := S.get hj
  rw [bt_some hx, bt_some hy, ← loB_toNat, ← loB_toNat, h]

/-- A kind of byte that does not ask for the size of letters, and is no blank and no end. -/
structure Kd (p : Nat → Bool) : Prop where
  lo : ∀ c, p (loN c) = p c
  no : p 32 = false
  z : p 0 = false
theorem Kd.of {p : Nat → Bool} (h : Kd p) {x y : Nat} (e : loN x = loN y) : p x = p y := by rw [← h.lo x, ← h.lo y, e]
theorem kL : Kd cL := ⟨fun c => by unfold cL loN; rw [Bool.eq_iff_iff]; split <;> simp <;> omega, rfl, rfl⟩
theorem kD : Kd cD := ⟨fun c => by unfold cD loN; rw [Bool.eq_iff_iff]; split <;> simp <;> omega, rfl, rfl⟩
theorem kI : Kd cI := ⟨fun c => by
  unfold cI; rw [kL.lo, kD.lo]; congr 1; unfold loN; rw [Bool.eq_iff_iff]; split <;> simp <;> omega, rfl, rfl⟩
theorem kE : Kd cE := ⟨fun c => by unfold cE loN; rw [Bool.eq_iff_iff]; split <;> simp <;> omega, rfl, rfl⟩
theorem kS : Kd cS := ⟨fun c => by unfold cS loN; rw [Bool.eq_iff_iff]; split <;> simp <;> omega, rfl, rfl⟩
theorem kP : Kd (eqB 46) := ⟨fun c => by unfold eqB loN; rw [Bool.eq_iff_iff]; split <;> simp <;> omega, rfl, rfl⟩
theorem kO : Kd cO := ⟨fun c => by unfold cO; rw [kL.lo, kE.lo], rfl, rfl⟩

/-- At the end of the stretch there is no such byte. -/
theorem Sim.endB {L M : List UInt8} {a b n : Nat} (S : Sim L a M b n) {p : Nat → Bool} (h : Kd p) : p (Go.Proofs.YtcafnpfhjiaolaaDoor.bt L (a + n)) = false := by
  rcases S.endL with e | e
  · rw [bt_out (by omega)]; exact h.z
  · rw [e]; exact h.no
theorem Sim.at_ {L M : List UInt8} {a b n : Nat} (S : Sim L a M b n) {p : Nat → Bool} (h : Kd p) {j : Nat} (hj : j ≤ n) : p (Go.Proofs.YtcafnpfhjiaolaaDoor.bt L (a + j)) = p (Go.Proofs.YtcafnpfhjiaolaaDoor.bt M (b + j)) := by
  by_cases e : j = n
  · subst e; rw [S.endB h, S.symm.endB h]
  · exact h.of (S.bt (by omega))

theorem rn_sim {L M : List UInt8} {a b n : Nat} (S : Sim L a M b n) {p : Nat → Bool} (h : Kd p) (i : Nat) (hi : i ≤ n) :
    ∃ r, i ≤ r ∧ r ≤ n ∧ rn p L (a + i) = a + r ∧ rn p M (b + i) = b + r := by
  by_cases e : i = n
  · subst e
    exact ⟨i, Nat.le_refl _, Nat.le_refl _, rn_stop fun _ => S.endB h, rn_stop fun _ => S.symm.endB h⟩
  · have hp := S.at_ h hi
    have h1 := S.inL; have h2 := S.inM
    rcases hq : p (bt L (a + i)) with _ | _
    · exact ⟨i, Nat.le_refl _, hi, rn_stop fun _ => hq, rn_stop fun _ => hp ▸ hq⟩
    · obtain ⟨r, hr1, hr2, hr3, hr4⟩ := rn_sim S h (i + 1) (by omega)
      exact ⟨r, by omega, hr2, by rw [rn_step (by omega) hq]; exact hr3, by rw [rn_step (by omega) (hp ▸ hq)]; exact hr4⟩
termination_by n - i

theorem low_sim {L M : List UInt8} {a b n : Nat} (S : Sim L a M b n) {i r : Nat} (h1 : i ≤ r) (h2 : r ≤ n) : low (sub L (a + i) (a + r)) = low (sub M (b + i) (b + r)) := by
  unfold low sub
  have h3 := S.inL; have h4 := S.inM
  apply List.ext_getElem?
  intro k
  rw [List.getElem?_map, List.getElem?_map, List.getElem?_take, List.getElem?_take, List.getElem?_drop, List.getElem?_drop]
  by_cases hk : k < r - i
  · rw [if_pos (by omega), if_pos (by omega)]
    have := S.alike (i + k) (by omega)
    rw [← Nat.add_assoc, ← Nat.add_assoc] at this
    exact this
  · rw [if_neg (by omega), if_neg (by omega)]

theorem isW_of {L : List UInt8} {i : Nat} {t : List UInt8} (h1 : i + t.length ≤ L.length) (h : ∀ k, k < t.length → t[k]? = (L[i + k]?).map loB) : isW L i t = true := by
  unfold isW
  rw [decide_eq_true_eq]
  refine ⟨h1, ?_⟩
  unfold low sub
  apply List.ext_getElem?
  intro k
  rw [List.getElem?_map, List.getElem?_take, List.getElem?_drop]
  by_cases hk : k < t.length
  · rw [if_pos (by omega), h k hk]
  · rw [if_neg (by omega), List.getElem?_eq_none (by omega)]; rfl
theorem isW_imp {L M : List UInt8} {a b n : Nat} (S : Sim L a M b n) {i : Nat} (hi : i ≤ n) {t : List UInt8} (ht : 32 ∉ t) (h : isW L (a + i) t = true) : isW M (b + i) t = true ∧ i + t.length ≤ n := by
  have hn : i + t.length ≤ n := by
    rcases Nat.lt_or_ge n (i + t.length) with hlt | hge
    · obtain ⟨h1, h2⟩ := isW_at h (n - i) (by omega)
      rw [show a + i + (n - i) = a + n by omega] at h1
      rcases S.endL with e | e
      · omega
      · have hin : a + n < L.length := by omega
        rw [List.getElem?_eq_getElem hin, List.getElem?_eq_getElem (by omega : n - i < t.length)] at h1
        have hb : bt L (a + n) = (L[a + n]).toNat := bt_some (List.getElem?_eq_getElem hin)
        rw [e] at hb
        have h32 : L[a + n] = 32 := by rw [← UInt8.toNat_inj]; exact hb.symm
        rw [h32] at h1
        simp only [Option.map_some, Option.some.injEq] at h1
        exact absurd (show (32 : UInt8) ∈ t by rw [show (32 : UInt8) = loB 32 from rfl, ← h1]; exact List.getElem_mem _) ht
    · exact hge
  refine ⟨isW_of (by have := S.inM; omega) fun k hk => ?_, hn⟩
  rw [(isW_at h k hk).1]
  have := S.alike (i + k) (by omega)
  rw [← Nat.add_assoc, ← Nat.add_assoc] at this
  exact this
theorem isW_sim {L M : List UInt8} {a b n : Nat} (S : Sim L a M b n) {i : Nat} (hi : i ≤ n) {t : List UInt8} (ht : 32 ∉ t) : isW L (a + i) t = isW M (b + i) t := by
  rw [Bool.eq_iff_iff]
  exact ⟨fun h => (isW_imp S hi ht h).1, fun h => (isW_imp S.symm hi ht h).1⟩
theorem find_congr' {α : Type} {p q : α → Bool} : ∀ {l : List α}, (∀ x ∈ l, p x = q x) → l.find? p = l.find? q
  | [], _ => rfl
  | a :: l, h => by
    rw [List.find?_cons, List.find?_cons, h a (List.mem_cons_self ..), find_congr' fun x hx => h x (List.mem_cons_of_mem _ hx)]
theorem word_sim {L M : List UInt8} {a b n : Nat} (S : Sim L a M b n) {i : Nat} (hi : i ≤ n) : wordP L (a + i) = wordP M (b + i) :=
  find_congr' fun w hw => isW_sim S hi ((show ∀ t ∈ wordsL, (32 : UInt8) ∉ t.2 by decide) w hw)
/-- A byte that is no letter. -/
def noL (x : UInt8) : Bool := decide (x.toNat < 65 ∨ 90 < x.toNat ∧ x.toNat < 97 ∨ 122 < x.toNat)
theorem noL_lo {x : UInt8} (h : noL x = true) : loB x = x := by
  unfold noL at h; simp only [decide_eq_true_eq] at h
  unfold loB; rw [if_neg (by omega)]
theorem noL_eq {x y : UInt8} (h : noL x = true) (e : loB y = x) : y = x := by
  unfold noL at h; simp only [decide_eq_true_eq] at h
  have := loB_toNat y
  rw [e] at this
  unfold loN at this
  by_cases c : 65 ≤ y.toNat ∧ y.toNat ≤ 90
  · rw [if_pos c] at this; omega
  · unfold loB at e; rw [if_neg c] at e; exact e
/-- Signs: no letters. -/
theorem pre_isW (L : List UInt8) (i : Nat) {p : List UInt8} (hi : i ≤ L.length) (hp : ∀ x ∈ p, noL x = true) : p.isPrefixOf (L.drop i) = isW L i p := by
  rw [Bool.eq_iff_iff]
  constructor
  · intro h
    obtain ⟨r, hr⟩ := List.isPrefixOf_iff_prefix.1 h
    have hl : p.length ≤ L.length - i := by rw [← List.length_drop, ← hr]; simp
    refine isW_of (by omega) fun k hk => ?_
    have h1 : L[i + k]? = p[k]? := by rw [← List.getElem?_drop, ← hr, List.getElem?_append_left hk]
    rw [h1, List.getElem?_eq_getElem hk]
    simp only [Option.map_some, Option.some.injEq]
    exact (noL_lo (hp _ (List.getElem_mem _))).symm
  · intro h
    rw [List.isPrefixOf_iff_prefix, List.prefix_iff_eq_take]
    apply List.ext_getElem?
    intro k
    rw [List.getElem?_take, List.getElem?_drop]
    by_cases hk : k < p.length
    · rw [if_pos hk]
      obtain ⟨h1, h2⟩ := isW_at h k hk
      have hin : i + k < L.length := by omega
      rw [List.getElem?_eq_getElem hin, List.getElem?_eq_getElem hk] at h1 ⊢
      simp only [Option.map_some, Option.some.injEq] at h1
      rw [noL_eq (hp _ (List.getElem_mem _)) h1.symm]
    · rw [if_neg hk, List.getElem?_eq_none (by omega)]
theorem pairs_noL : ∀ t ∈ pairsL, (∀ x ∈ t, noL x = true) ∧ (32 : UInt8) ∉ t := by decide
theorem pair_sim {L M : List UInt8} {a b n : Nat} (S : Sim L a M b n) {i : Nat} (hi : i ≤ n) : pairP L (a + i) = pairP M (b + i) :=
  find_congr' fun t ht => by
    have h1 := S.inL; have h2 := S.inM
    rw [pre_isW L _ (by omega) (pairs_noL t ht).1, pre_isW M _ (by omega) (pairs_noL t ht).1]
    exact isW_sim S hi (pairs_noL t ht).2
theorem word_end {L M : List UInt8} {a b n : Nat} (S : Sim L a M b n) {i : Nat} (hi : i ≤ n) {w : Tok} (h : wordP L (a + i) = some w) : i + w.2.length ≤ n := by
  have hw := List.mem_of_find?_eq_some h
  have hc : isW L (a + i) w.2 = true := List.find?_some (p := fun w : Tok => isW L (a + i) w.2) h
  exact (isW_imp S hi ((show ∀ t ∈ wordsL, (32 : UInt8) ∉ t.2 by decide) w hw) hc).2
theorem pair_end {L M : List UInt8} {a b n : Nat} (S : Sim L a M b n) {i : Nat} (hi : i ≤ n) {t : List UInt8} (h : pairP L (a + i) = some t) : i + t.length ≤ n := by
  have hw := List.mem_of_find?_eq_some h
  have hc : t.isPrefixOf (L.drop (a + i)) = true := List.find?_some (p := fun t : List UInt8 => t.isPrefixOf (L.drop (a + i))) h
  have h1 := S.inL
  rw [pre_isW L _ (by omega) (pairs_noL t hw).1] at hc
  exact (isW_imp S hi (pairs_noL t hw).2 hc).2

/-- A result, shifted. -/
def shf (d : Nat) : Option (Tok × Nat) → Option (Tok × Nat) := Option.map fun r => (r.1, d + r.2)

theorem pb_sim {L M : List UInt8} {a b n : Nat} (S : Sim L a M b n) {i : Nat} (hi : i ≤ n) : pbP L (a + i) = pbP M (b + i) ∧ (pbP L (a + i) = true → i < n) := by
  have hin : eqB 46 (bt L (a + i)) = true → i < n := by
    intro h
    rcases Nat.lt_or_ge i n with h1 | h1
    · exact h1
    · have e : i = n := by omega
      rw [e, S.endB kP] at h; cases h
  refine ⟨?_, fun h => hin (by unfold pbP at h; simp only [Bool.and_eq_true] at h; exact h.1.1)⟩
  unfold pbP
  rw [S.at_ kP hi, word_sim S hi]
  rcases h : eqB 46 (bt M (b + i)) with _ | _
  · simp
  · have h2 := hin (by rw [S.at_ kP hi]; exact h)
    have := S.at_ kO (j := i + 1) (by omega)
    rw [Nat.add_assoc, Nat.add_assoc, this]
theorem exp_sim {L M : List UInt8} {a b n : Nat} (S : Sim L a M b n) {i : Nat} (hi : i ≤ n) : ∃ r, i ≤ r ∧ r ≤ n ∧ expP L (a + i) = a + r ∧ expP M (b + i) = b + r := by
  unfold expP
  rw [S.at_ kE hi]
  rcases h : cE (bt M (b + i)) with _ | _
  · exact ⟨i, Nat.le_refl _, hi, by simp, by simp⟩
  · have hin : i < n := by
      rcases Nat.lt_or_ge i n with h1 | h1
      · exact h1
      · have e : i = n := by omega
        rw [e, S.symm.endB kE] at h; cases h
    have hs := S.at_ kS (j := i + 1) (by omega)
    rw [← Nat.add_assoc, ← Nat.add_assoc] at hs
    rw [hs]
    obtain ⟨f, hf1, hf2, hf3⟩ : ∃ f, i ≤ f ∧ f ≤ n ∧ (∀ c : Nat, (if cS (bt M (b + i + 1)) = true then c + i + 2 else c + i + 1) = c + f) := by
      rcases h3 : cS (bt M (b + i + 1)) with _ | _
      · exact ⟨i + 1, by omega, by omega, fun c => by simp; omega⟩
      · refine ⟨i + 2, by omega, ?_, fun c => by simp; omega⟩
        rcases Nat.lt_or_ge (i + 1) n with h1 | h1
        · omega
        · have e : i + 1 = n := by omega
          rw [Nat.add_assoc, e, S.symm.endB kS] at h3; cases h3
    simp only [if_true, hf3]
    obtain ⟨r, hr1, hr2, hr3, hr4⟩ := rn_sim S kD f hf2
    rw [hr3, hr4]
    by_cases hc : r = f ∨ f + 3 < r
    · exact ⟨i, Nat.le_refl _, hi, by rw [if_pos (by omega)], by rw [if_pos (by omega)]⟩
    · exact ⟨r, by omega, hr2, by rw [if_neg (by omega)], by rw [if_neg (by omega)]⟩
theorem name_sim {L M : List UInt8} {a b n : Nat} (S : Sim L a M b n) {i : Nat} (hi : i ≤ n) : ∃ o, (∀ t e, o = some (t, e) → e ≤ n) ∧ nameP L (a + i) = shf a o ∧ nameP M (b + i) = shf b o := by
  obtain ⟨r, hr1, hr2, hr3, hr4⟩ := rn_sim S kI i hi
  unfold nameP
  rw [hr3, hr4]
  by_cases h : r - i ≤ 12
  · refine ⟨some ((kName, low (sub L (a + i) (a + r))), r), (fun t e he => by simp at he; omega), ?_, ?_⟩
    · rw [if_pos (by omega)]; rfl
    · rw [if_pos (by omega), low_sim S hr1 hr2]; rfl
  · exact ⟨none, (fun t e he => by cases he), by rw [if_neg (by omega)]; rfl, by rw [if_neg (by omega)]; rfl⟩
theorem num_sim {L M : List UInt8} {a b n : Nat} (S : Sim L a M b n) {i : Nat} (hi : i ≤ n) : ∃ o, (∀ t e, o = some (t, e) → e ≤ n) ∧ numP L (a + i) = shf a o ∧ numP M (b + i) = shf b o := by
  obtain ⟨r1, h11, h12, h13, h14⟩ := rn_sim S kD i hi
  obtain ⟨hp, hpin⟩ := pb_sim S h12
  have key : ∃ (r : Nat) (q : Bool) (k : Nat), i ≤ r ∧ r ≤ n ∧ numE L (a + i) = (a + r, q, k) ∧ numE M (b + i) = (b + r, q, k) := by
    unfold numE
    simp only [h13, h14, ← hp]
    rcases h : pbP L (a + r1) with _ | _
    · obtain ⟨r3, h31, h32, h33, h34⟩ := exp_sim S h12
      refine ⟨r3, decide (r1 < r3), r1 - i, by omega, h32, ?_, ?_⟩
      · simp only [Bool.false_eq_true, if_false, h33, Bool.false_or, Prod.mk.injEq, true_and, decide_eq_decide]; omega
      · simp only [Bool.false_eq_true, if_false, h34, Bool.false_or, Prod.mk.injEq, true_and, decide_eq_decide]; omega
    · have h1 := hpin h
      obtain ⟨r2, h21, h22, h23, h24⟩ := rn_sim S kD (r1 + 1) (by omega)
      obtain ⟨r3, h31, h32, h33, h34⟩ := exp_sim S h22
      rw [← Nat.add_assoc] at h23 h24
      refine ⟨r3, true, (r1 - i) + (r2 - r1 - 1), by omega, h32, ?_, ?_⟩
      · simp only [if_true, h23, h33, Bool.true_or, Prod.mk.injEq, true_and]; omega
      · simp only [if_true, h24, h34, Bool.true_or, Prod.mk.injEq, true_and]; omega
  obtain ⟨r, q, k, hr1, hr2, hr3, hr4⟩ := key
  unfold numP
  rw [hr3, hr4]
  simp only []
  rw [S.at_ kI hr2, low_sim S hr1 hr2]
  by_cases h : (if q = true then 60 else 10) < k ∨ cI (bt M (b + r)) = true
  · exact ⟨none, (fun t e he => by cases he), by rw [if_pos h]; rfl, by rw [if_pos h]; rfl⟩
  · exact ⟨some ((if q = true then kReal else kInt, low (sub M (b + i) (b + r))), r), (fun t e he => by simp at he; omega), by rw [if_neg h]; rfl, by rw [if_neg h]; rfl⟩
theorem op_sim {L M : List UInt8} {a b n : Nat} (S : Sim L a M b n) {i : Nat} (hi : i < n) : ∃ o, (∀ t e, o = some (t, e) → e ≤ n) ∧ opP L (a + i) = shf a o ∧ opP M (b + i) = shf b o := by
  unfold opP
  rw [← word_sim S (by omega), ← pair_sim S (by omega)]
  rcases h1 : wordP L (a + i) with _ | w
  · rcases h2 : pairP L (a + i) with _ | t
    · obtain ⟨x, y, hx, hy, hxy⟩ := S.get hi
      simp only []
      have bx : (bt L (a + i)).toUInt8 = x := by rw [bt_some hx]; simp
      have by_ : (bt M (b + i)).toUInt8 = y := by rw [bt_some hy]; simp
      rw [bx, by_]
      have hs : ∀ z ∈ singlesL, noL z = true := by decide
      by_cases hm : x ∈ singlesL
      · have e : y = x := noL_eq (hs x hm) (by rw [← hxy, noL_lo (hs x hm)])
        refine ⟨some ((kOp, [x]), i + 1), (fun t e he => by simp at he; omega), ?_, ?_⟩
        · rw [if_pos hm]; rfl
        · rw [e, if_pos hm]; rfl
      · have hm2 : y ∉ singlesL := fun hy2 => hm (by
          have e : x = y := noL_eq (hs y hy2) (by rw [hxy, noL_lo (hs y hy2)])
          rw [e]; exact hy2)
        exact ⟨none, (fun t e he => by cases he), by rw [if_neg hm]; rfl, by rw [if_neg hm2]; rfl⟩
    · have := pair_end S (by omega) h2
      exact ⟨some ((kOp, t), i + t.length), (fun t' e he => by simp at he; omega), by simp [shf]; omega, by simp [shf]; omega⟩
  · have := word_end S (by omega) h1
    exact ⟨some (w, i + w.2.length), (fun t' e he => by simp at he; omega), by simp [shf]; omega, by simp [shf]; omega⟩
/-- Whether a byte is a quote. -/
def quoB (c : Nat) : Bool := decide (c = 39 ∨ c = 34)
theorem kQ : Kd quoB := ⟨fun c => by unfold quoB loN; rw [Bool.eq_iff_iff]; split <;> simp <;> omega, rfl, rfl⟩
/-- Where no quote stands, alike texts have the same token. -/
theorem nxt_sim {L M : List UInt8} {a b n : Nat} (S : Sim L a M b n) {i : Nat} (hi : i < n) (hq : quoB (bt L (a + i)) = false) :
    ∃ o, (∀ t e, o = some (t, e) → e ≤ n) ∧ nxtP L (a + i) = shf a o ∧ nxtP M (b + i) = shf b o := by
  unfold nxtP
  have hq2 : quoB (bt M (b + i)) = false := by rw [← S.at_ kQ (by omega)]; exact hq
  have q1 : ¬ (bt L (a + i) = 39 ∨ bt L (a + i) = 34) := by unfold quoB at hq; simpa using hq
  have q2 : ¬ (bt M (b + i) = 39 ∨ bt M (b + i) = 34) := by unfold quoB at hq2; simpa using hq2
  have hd : (cD (bt L (a + i)) = true ∨ bt L (a + i) = 46 ∧ cD (bt L (a + i + 1)) = true) ↔ (cD (bt M (b + i)) = true ∨ bt M (b + i) = 46 ∧ cD (bt M (b + i + 1)) = true) := by
    have h1 := S.at_ kP (j := i) (by omega)
    have h2 := S.at_ kD (j := i + 1) (by omega)
    rw [← Nat.add_assoc, ← Nat.add_assoc] at h2
    have h3 : bt L (a + i) = 46 ↔ bt M (b + i) = 46 := by
      unfold eqB at h1; simpa using h1
    rw [S.at_ kD (by omega), h2, h3]
  rw [S.at_ kL (by omega), if_neg q1, if_neg q2]
  by_cases c1 : cL (bt M (b + i)) = true
  · rw [if_pos c1, if_pos c1]; exact name_sim S (by omega)
  · rw [if_neg c1, if_neg c1]
    by_cases c2 : cD (bt M (b + i)) = true ∨ bt M (b + i) = 46 ∧ cD (bt M (b + i + 1)) = true
    · rw [if_pos (hd.2 c2), if_pos c2]; exact num_sim S (by omega)
    · rw [if_neg (fun h => c2 (hd.1 h)), if_neg c2]; exact op_sim S hi
end Go.Proofs.YtcafnpfhjiaolaaDoor

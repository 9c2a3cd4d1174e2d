/- Mathematics of sections: triples, extents, places, limits; which descriptors are valid, in the program's words and in the document's. -/
import Derived.KernelRfl
namespace Go.Proofs.Ytkgdnlknnjiglaa

/-- A number that a triple may have, or a stride. -/
def nearB (n : Int) : Bool := decide (-2147483648 ≤ n) && decide (n ≤ 2147483648)
theorem near_iff {n : Int} : nearB n = true ↔ -2147483648 ≤ n ∧ n ≤ 2147483648 := by unfold nearB; simp
def triB (lo hi st : Int) : Bool := nearB lo && nearB hi && nearB st && !decide (st = 0)
theorem tri_iff {lo hi st : Int} : triB lo hi st = true ↔ nearB lo = true ∧ nearB hi = true ∧ nearB st = true ∧ st ≠ 0 := by unfold triB; simp [and_assoc]
def cnt (lo hi st : Int) : Int := max 0 ((hi - lo + st).tdiv st)

theorem tdiv_bd (a b m : Int) (h1 : -m ≤ a) (h2 : a ≤ m) : -m ≤ a.tdiv b ∧ a.tdiv b ≤ m := by
  have h := Int.natAbs_tdiv_le_natAbs a b
  omega
theorem cnt_bd {lo hi st : Int} (h : triB lo hi st = true) : 0 ≤ cnt lo hi st ∧ cnt lo hi st ≤ 6442450944 := by
  obtain ⟨h1, h2, h3, h4⟩ := tri_iff.1 h
  rw [near_iff] at h1 h2 h3
  have := tdiv_bd (hi - lo + st) st 6442450944 (by omega) (by omega)
  unfold cnt; omega
/-- What the counted members are: the last one is no further than Hi, the next one is. -/
theorem cnt_pos {lo hi st : Int} (h : 0 < st) : hi < lo + cnt lo hi st * st ∧ (0 < cnt lo hi st → lo + (cnt lo hi st - 1) * st ≤ hi) := by
  unfold cnt
  by_cases h0 : 0 ≤ hi - lo + st
  · rw [Int.tdiv_eq_ediv_of_nonneg h0]
    have e1 := Int.mul_ediv_add_emod (hi - lo + st) st
    have e2 := Int.emod_nonneg (hi - lo + st) (show st ≠ 0 by omega)
    have e3 := Int.emod_lt_of_pos (hi - lo + st) h
    have e4 := Int.ediv_nonneg h0 (show 0 ≤ st by omega)
    rw [Int.max_eq_right e4]
    generalize (hi - lo + st) / st = q at *
    have e5 : (q - 1) * st = st * q - st := by rw [Int.sub_mul, Int.one_mul, Int.mul_comm]
    have e6 : q * st = st * q := Int.mul_comm _ _
    rw [e5, e6]
    omega
  · have : (hi - lo + st).tdiv st ≤ 0 := by
      have h1 := Int.tdiv_nonneg (a := -(hi - lo + st)) (b := st) (by omega) (by omega)
      rw [Int.neg_tdiv] at h1; omega
    rw [Int.max_eq_left this]
    simp; omega
theorem cnt_neg {lo hi st : Int} (h : st < 0) : lo + cnt lo hi st * st < hi ∧ (0 < cnt lo hi st → hi ≤ lo + (cnt lo hi st - 1) * st) := by
  have e : cnt lo hi st = cnt (-lo) (-hi) (-st) := by
    unfold cnt
    rw [show -hi - -lo + -st = -(hi - lo + st) by omega, Int.neg_tdiv, Int.tdiv_neg, Int.neg_neg]
  have := cnt_pos (lo := -lo) (hi := -hi) (st := -st) (by omega)
  rw [e]
  generalize cnt (-lo) (-hi) (-st) = q at *
  rw [Int.mul_neg, Int.mul_neg] at this
  omega
/-- The sums of the law of counts are within 64 bits. -/
theorem cnt_sums {lo hi st : Int} (h : triB lo hi st = true) : (-30000000000 ≤ (cnt lo hi st - 1) * st ∧ (cnt lo hi st - 1) * st ≤ 30000000000) ∧ (-30000000000 ≤ cnt lo hi st * st ∧ cnt lo hi st * st ≤ 30000000000) := by
  obtain ⟨h1, h2, h3, h4⟩ := tri_iff.1 h
  rw [near_iff] at h1 h2 h3
  have e : (cnt lo hi st - 1) * st = cnt lo hi st * st - st := by rw [Int.sub_mul, Int.one_mul]
  rw [e]
  by_cases h0 : cnt lo hi st = 0
  · rw [h0]; omega
  · have hp : 0 < cnt lo hi st := by have := (cnt_bd h).1; omega
    rcases Int.lt_or_gt_of_ne h4 with hs | hs
    · have := cnt_neg (lo := lo) (hi := hi) hs
      rw [e] at this
      have := this.2 hp
      have h7 : cnt lo hi st * st ≤ 0 := Int.mul_nonpos_of_nonneg_of_nonpos (by omega) (by omega)
      omega
    · have := cnt_pos (lo := lo) (hi := hi) hs
      rw [e] at this
      have := this.2 hp
      have h7 : 0 ≤ cnt lo hi st * st := Int.mul_nonneg (by omega) (by omega)
      omega

/-- A product of numbers. -/
def pr (l : List Int) : Int := l.foldl (· * ·) 1
theorem pr_snoc (l : List Int) (x : Int) : pr (l ++ [x]) = pr l * x := by unfold pr; rw [List.foldl_append]; rfl
theorem pr_take {l : List Int} {k : Nat} {x : Int} (h : l[k]? = some x) : pr (l.take (k + 1)) = pr (l.take k) * x := by
  rw [List.take_add_one, h]; exact pr_snoc _ _
theorem foldl_mul (l : List Int) (a : Int) : l.foldl (· * ·) a = a * pr l := by
  induction l generalizing a with
  | nil => simp [pr]
  | cons x l ih => unfold pr; simp only [List.foldl_cons]; rw [ih, ih (1 * x)]; rw [Int.one_mul, Int.mul_assoc]
theorem pr_cons (x : Int) (l : List Int) : pr (x :: l) = x * pr l := by unfold pr; rw [List.foldl_cons, foldl_mul, Int.one_mul]; rfl
theorem pr_append (l m : List Int) : pr (l ++ m) = pr l * pr m := by unfold pr; rw [List.foldl_append, foldl_mul]; rfl

def extB (e : Int) : Bool := decide (0 ≤ e) && decide (e ≤ 4000)
theorem ext_iff {e : Int} : extB e = true ↔ 0 ≤ e ∧ e ≤ 4000 := by unfold extB; simp
/-- Extents that are some. -/
def okE (ex : List Int) : Bool := decide (ex.length ≤ 3) && ex.all extB && decide (pr ex ≤ 4000)
theorem okE_iff {ex : List Int} : okE ex = true ↔ ex.length ≤ 3 ∧ (∀ e ∈ ex, 0 ≤ e ∧ e ≤ 4000) ∧ pr ex ≤ 4000 := by
  unfold okE; simp [ext_iff, and_assoc]
theorem pr_bd : ∀ (l : List Int), (∀ e ∈ l, 0 ≤ e ∧ e ≤ 4000) → 0 ≤ pr l ∧ pr l ≤ 4000 ^ l.length
  | [], _ => by simp [pr]
  | x :: l, h => by
    obtain ⟨h1, h2⟩ := pr_bd l fun e he => h e (List.mem_cons_of_mem _ he)
    obtain ⟨h3, h4⟩ := h x List.mem_cons_self
    rw [pr_cons]
    refine ⟨Int.mul_nonneg h3 h1, ?_⟩
    rw [List.length_cons, Int.pow_succ, Int.mul_comm]
    exact Int.mul_le_mul h2 h4 h3 (Int.le_trans h1 h2)
theorem pr_small {l : List Int} (hl : l.length ≤ 3) (h : ∀ e ∈ l, 0 ≤ e ∧ e ≤ 4000) : 0 ≤ pr l ∧ pr l ≤ 64000000000 := by
  obtain ⟨h1, h2⟩ := pr_bd l h
  refine ⟨h1, Int.le_trans h2 ?_⟩
  have : l.length = 0 ∨ l.length = 1 ∨ l.length = 2 ∨ l.length = 3 := by omega
  rcases this with e | e | e | e <;> rw [e] <;> decide
def szE (ex : List Int) : Int := if okE ex = true then pr ex else -1

/-- A descriptor. -/
structure DS where
  b : Int
  ex : List Int
  st : List Int

/-- The least and the greatest place, as the program sums them. -/
def loF (b : Int) (l : List (Int × Int)) : Int := l.foldl (fun a p => a + min ((p.1 - 1) * p.2) 0) b
def hiF (b : Int) (l : List (Int × Int)) : Int := l.foldl (fun a p => a + max ((p.1 - 1) * p.2) 0) b
theorem loF_snoc (b : Int) (l : List (Int × Int)) (p : Int × Int) : loF b (l ++ [p]) = loF b l + min ((p.1 - 1) * p.2) 0 := by unfold loF; rw [List.foldl_append]; rfl
theorem hiF_snoc (b : Int) (l : List (Int × Int)) (p : Int × Int) : hiF b (l ++ [p]) = hiF b l + max ((p.1 - 1) * p.2) 0 := by unfold hiF; rw [List.foldl_append]; rfl
/-- One dimension more, behind all. -/
def stepO (out O : List Int) : List Int := O.flatMap fun o => out.map (· + o)
def combo (out : List Int) (Os : List (List Int)) : List Int := Os.foldl stepO out
/-- The offsets of a dimension. -/
def offs (p : Int × Int) : List Int := (List.range p.1.toNat).map fun i : Nat => (i : Int) * p.2
def plc (d : DS) : List Int := if pr d.ex = 0 then [] else combo [d.b] ((d.ex.zip d.st).map offs)

def placeB (x : Int) : Bool := decide (0 ≤ x) && decide (x ≤ 2147483648)
/-- Valid, in the program's words. -/
def fitB (d : DS) : Bool := decide (0 ≤ loF d.b (d.ex.zip d.st)) && decide (hiF d.b (d.ex.zip d.st) ≤ 2147483648)
def vldB (d : DS) : Bool := okE d.ex && decide (d.st.length = d.ex.length) && d.st.all nearB && decide (0 ≤ d.b) && (decide (pr d.ex = 0) || (decide (d.b ≤ 2147483648) && fitB d))

theorem mem_stepO {out O : List Int} {x : Int} : x ∈ stepO out O ↔ ∃ o ∈ O, ∃ y ∈ out, x = y + o := by
  unfold stepO; simp only [List.mem_flatMap, List.mem_map]
  exact ⟨fun ⟨o, ho, y, hy, e⟩ => ⟨o, ho, y, hy, e.symm⟩, fun ⟨o, ho, y, hy, e⟩ => ⟨o, ho, y, hy, e.symm⟩⟩
theorem mem_offs {p : Int × Int} {o : Int} : o ∈ offs p ↔ ∃ i : Nat, i < p.1.toNat ∧ o = i * p.2 := by
  unfold offs; simp only [List.mem_map, List.mem_range]
  exact ⟨fun ⟨i, h, e⟩ => ⟨i, h, e.symm⟩, fun ⟨i, h, e⟩ => ⟨i, h, e.symm⟩⟩
theorem mul_ends (i e : Nat) (s : Int) (h : i < e) : min (((e : Int) - 1) * s) 0 ≤ i * s ∧ (i : Int) * s ≤ max (((e : Int) - 1) * s) 0 := by
  rcases Int.le_total 0 s with hs | hs
  · have h1 : (i : Int) * s ≤ ((e : Int) - 1) * s := Int.mul_le_mul_of_nonneg_right (by omega) hs
    have h2 : 0 ≤ (i : Int) * s := Int.mul_nonneg (by omega) hs
    omega
  · have h1 : ((e : Int) - 1) * s ≤ (i : Int) * s := Int.mul_le_mul_of_nonpos_right (by omega) hs
    have h2 : (i : Int) * s ≤ 0 := Int.mul_nonpos_of_nonneg_of_nonpos (by omega) hs
    omega
/-- The ends are places, and all places lie between. -/
theorem combo_ends : ∀ (l : List (Int × Int)) (out : List Int) (a b : Int), (∀ p ∈ l, 1 ≤ p.1) → a ∈ out → b ∈ out → (∀ x ∈ out, a ≤ x ∧ x ≤ b) →
    loF a l ∈ combo out (l.map offs) ∧ hiF b l ∈ combo out (l.map offs) ∧ ∀ x ∈ combo out (l.map offs), loF a l ≤ x ∧ x ≤ hiF b l
  | [], out, a, b, _, ha, hb, h => ⟨ha, hb, h⟩
  | p :: l, out, a, b, hp, ha, hb, h => by
    obtain ⟨e, s⟩ := p
    have he := hp (e, s) List.mem_cons_self
    simp only at he
    refine combo_ends l (stepO out (offs (e, s))) (a + min ((e - 1) * s) 0) (b + max ((e - 1) * s) 0) (fun q hq => hp q (List.mem_cons_of_mem _ hq)) ?_ ?_ ?_
    · rw [mem_stepO]
      by_cases h0 : (e - 1) * s ≤ 0
      · exact ⟨_, mem_offs.2 ⟨(e - 1).toNat, by simp; omega, rfl⟩, a, ha, by rw [Int.min_eq_left h0, Int.toNat_of_nonneg (by omega)]⟩
      · exact ⟨_, mem_offs.2 ⟨0, by simp; omega, rfl⟩, a, ha, by rw [Int.min_eq_right (by omega)]; simp⟩
    · rw [mem_stepO]
      by_cases h0 : 0 ≤ (e - 1) * s
      · exact ⟨_, mem_offs.2 ⟨(e - 1).toNat, by simp; omega, rfl⟩, b, hb, by rw [Int.max_eq_left h0, Int.toNat_of_nonneg (by omega)]⟩
      · exact ⟨_, mem_offs.2 ⟨0, by simp; omega, rfl⟩, b, hb, by rw [Int.max_eq_right (by omega)]; simp⟩
    · intro x hx
      obtain ⟨o, ho, y, hy, rfl⟩ := mem_stepO.1 hx
      obtain ⟨i, hi, rfl⟩ := mem_offs.1 ho
      have h1 := h y hy
      have h2 := mul_ends i e.toNat s (by simpa using hi)
      rw [Int.toNat_of_nonneg (by omega)] at h2
      simp only
      omega
theorem pr_ne : ∀ {l : List Int}, (∀ e ∈ l, 0 ≤ e ∧ e ≤ 4000) → pr l ≠ 0 → ∀ e ∈ l, 1 ≤ e
  | [], _, _, e, h => by cases h
  | x :: l, hb, hp, e, h => by
    rw [pr_cons] at hp
    have hx := hb x List.mem_cons_self
    rcases List.mem_cons.1 h with rfl | h
    · have : e ≠ 0 := fun e0 => hp (by rw [e0, Int.zero_mul])
      omega
    · exact pr_ne (fun e he => hb e (List.mem_cons_of_mem _ he)) (fun e0 => hp (by rw [e0, Int.mul_zero])) e h
theorem lo_le : ∀ (l : List (Int × Int)) (b : Int), loF b l ≤ b ∧ b ≤ hiF b l
  | [], b => ⟨Int.le_refl _, Int.le_refl _⟩
  | p :: l, b => by
    have h1 := (lo_le l (b + min ((p.1 - 1) * p.2) 0)).1
    have h2 := (lo_le l (b + max ((p.1 - 1) * p.2) 0)).2
    have e1 : loF b (p :: l) = loF (b + min ((p.1 - 1) * p.2) 0) l := rfl
    have e2 : hiF b (p :: l) = hiF (b + max ((p.1 - 1) * p.2) 0) l := rfl
    omega
/-- Valid, in the document's words, is that in the program's. -/
theorem vld_ref (d : DS) : vldB d = (okE d.ex && decide (d.st.length = d.ex.length) && d.st.all nearB && decide (0 ≤ d.b) && (plc d).all placeB) := by
  unfold vldB
  by_cases h1 : okE d.ex = true
  · by_cases h2 : d.st.length = d.ex.length
    · by_cases h4 : 0 ≤ d.b
      · simp only [h1, h2, h4, decide_true, Bool.and_true, Bool.true_and]
        congr 1
        by_cases h0 : pr d.ex = 0
        · unfold plc; simp [h0]
        · have hp : ∀ p ∈ d.ex.zip d.st, 1 ≤ p.1 := fun p hp => pr_ne (okE_iff.1 h1).2.1 h0 _ (List.of_mem_zip hp).1
          obtain ⟨e1, e2, e3⟩ := combo_ends (d.ex.zip d.st) [d.b] d.b d.b hp (List.mem_singleton.2 rfl) (List.mem_singleton.2 rfl) (fun x hx => by rw [List.mem_singleton.1 hx]; omega)
          have hl := lo_le (d.ex.zip d.st) d.b
          rw [Bool.eq_iff_iff]
          unfold plc fitB placeB
          simp only [h0, if_false, decide_false, Bool.false_or, List.all_eq_true, Bool.and_eq_true, decide_eq_true_eq]
          exact ⟨fun ⟨a, b, c⟩ x hx => by have := e3 x hx; omega, fun h => by have a := h _ e1; have b := h _ e2; omega⟩
      · simp [h4]
    · simp [h2]
  · simp [h1]
theorem mul_near {x y : Int} (h0 : 0 ≤ x) (h1 : x ≤ 4000) (h2 : -2147483648 ≤ y) (h3 : y ≤ 2147483648) : -8589934592000 ≤ x * y ∧ x * y ≤ 8589934592000 := by
  rcases Int.le_total 0 y with hs | hs
  · have a := Int.mul_nonneg h0 hs
    have b := Int.mul_le_mul h1 h3 hs (by decide)
    omega
  · have a := Int.mul_nonpos_of_nonneg_of_nonpos h0 hs
    have b := Int.mul_le_mul h1 (show -y ≤ 2147483648 by omega) (by omega) (by decide)
    rw [Int.mul_neg] at b
    omega
/-- The sums of the ends are within 64 bits. -/
theorem ends_bd : ∀ (l : List (Int × Int)) (b : Int), (∀ p ∈ l, (1 ≤ p.1 ∧ p.1 ≤ 4000) ∧ -2147483648 ≤ p.2 ∧ p.2 ≤ 2147483648) →
    b - l.length * 8589934592000 ≤ loF b l ∧ loF b l ≤ b ∧ b ≤ hiF b l ∧ hiF b l ≤ b + l.length * 8589934592000
  | [], b, _ => by simp [loF, hiF]
  | p :: l, b, h => by
    have h1 := ends_bd l (b + min ((p.1 - 1) * p.2) 0) fun q hq => h q (List.mem_cons_of_mem _ hq)
    have h2 := ends_bd l (b + max ((p.1 - 1) * p.2) 0) fun q hq => h q (List.mem_cons_of_mem _ hq)
    have e1 : loF b (p :: l) = loF (b + min ((p.1 - 1) * p.2) 0) l := rfl
    have e2 : hiF b (p :: l) = hiF (b + max ((p.1 - 1) * p.2) 0) l := rfl
    have hp := h p List.mem_cons_self
    have hm := mul_near (x := p.1 - 1) (y := p.2) (by omega) (by omega) (by omega) (by omega)
    rw [List.length_cons]
    omega
end Go.Proofs.Ytkgdnlknnjiglaa

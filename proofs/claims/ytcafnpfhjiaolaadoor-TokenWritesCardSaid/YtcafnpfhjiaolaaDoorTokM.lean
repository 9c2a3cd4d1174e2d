/- The plain mathematics of tokens: bytes of a text, runs of bytes, words, signs, and which token stands at a place. Nothing of the program is imported. -/
import Derived.Lib.Case
namespace Go.Proofs.YtcafnpfhjiaolaaDoor

/-- The byte at a place, 0 behind the end. -/
def bt (L : List UInt8) (i : Nat) : Nat := (L.getD i 0).toNat
def cL (c : Nat) : Bool := decide (97 ≤ c ∧ c ≤ 122 ∨ 65 ≤ c ∧ c ≤ 90)
def cD (c : Nat) : Bool := decide (48 ≤ c ∧ c ≤ 57)
def cI (c : Nat) : Bool := cL c || cD c || decide (c = 95)
def cE (c : Nat) : Bool := decide (c = 101 ∨ c = 69 ∨ c = 100 ∨ c = 68)
def cS (c : Nat) : Bool := decide (c = 43 ∨ c = 45)
def cOk (c : Nat) : Bool := decide (32 ≤ c ∧ c ≤ 126)

/-- Where a run of such bytes ends that begins at a place. -/
def rn (p : Nat → Bool) (L : List UInt8) (i : Nat) : Nat :=
  if h : i < L.length then (if p (bt L i) = true then rn p L (i + 1) else i) else i
termination_by L.length - i

theorem rn_step {p : Nat → Bool} {L : List UInt8} {i : Nat} (h : i < L.length) (hp : p (bt L i) = true) : rn p L i = rn p L (i + 1) := by
  rw [rn]; simp [h, hp]
theorem rn_stop {p : Nat → Bool} {L : List UInt8} {i : Nat} (hp : i < L.length → p (bt L i) = false) : rn p L i = i := by
  rw [rn]
  by_cases h : i < L.length
  · simp [h, hp h]
  · simp [h]
theorem rn_ge (p : Nat → Bool) (L : List UInt8) (i : Nat) : i ≤ rn p L i := by
  rw [rn]
  split
  · split
    · have := rn_ge p L (i + 1); omega
    · exact Nat.le_refl _
  · exact Nat.le_refl _
termination_by L.length - i
theorem rn_le (p : Nat → Bool) (L : List UInt8) (i : Nat) (h : i ≤ L.length) : rn p L i ≤ L.length := by
  rw [rn]
  split
  · split
    · exact rn_le p L (i + 1) (by omega)
    · exact h
  · exact h
termination_by L.length - i
theorem rn_in {p : Nat → Bool} {L : List UInt8} {i : Nat} (j : Nat) (h1 : i ≤ j) (h2 : j < rn p L i) : p (bt L j) = true ∧ j < L.length := by
  rw [rn] at h2
  split at h2
  · rename_i h
    split at h2
    · rename_i hp
      by_cases e : j = i
      · subst e; exact ⟨hp, h⟩
      · exact rn_in j (by omega) h2
    · omega
  · omega
termination_by L.length - i
theorem rn_end {p : Nat → Bool} {L : List UInt8} {i : Nat} (h : rn p L i < L.length) : p (bt L (rn p L i)) = false := by
  by_cases hi : i < L.length
  · by_cases hp : p (bt L i) = true
    · rw [rn_step hi hp] at h ⊢; exact rn_end h
    · have hp : p (bt L i) = false := by simpa using hp
      rw [rn_stop (fun _ => hp)] at h ⊢; exact hp
  · rw [rn_stop (fun h => absurd h hi)] at h; omega
termination_by L.length - i

theorem bt_lt (L : List UInt8) (i : Nat) : bt L i < 256 := UInt8.toNat_lt _
theorem bt_out {L : List UInt8} {i : Nat} (h : L.length ≤ i) : bt L i = 0 := by
  unfold bt; rw [List.getD_eq_getElem?_getD, List.getElem?_eq_none h]; rfl
theorem bt_get (s : ByteArray) (k : Nat) (h : k < s.size) : bt s.data.toList k = s[k].toNat := by
  unfold bt
  rw [List.getD_eq_getElem?_getD, List.getElem?_eq_getElem (by simpa using h)]
  rfl

/-- The bytes from one place to another. -/
def sub (L : List UInt8) (a b : Nat) : List UInt8 := (L.drop a).take (b - a)
def loB (b : UInt8) : UInt8 := if 65 ≤ b.toNat ∧ b.toNat ≤ 90 then b + 32 else b
def low (l : List UInt8) : List UInt8 := l.map loB

/-- A token: its kind and its text. -/
abbrev Tok := ByteArray × List UInt8
abbrev kName : ByteArray := ⟨#[110, 97, 109, 101]⟩
abbrev kInt : ByteArray := ⟨#[105, 110, 116]⟩
abbrev kReal : ByteArray := ⟨#[114, 101, 97, 108]⟩
abbrev kText : ByteArray := ⟨#[116, 101, 120, 116]⟩
abbrev kOp : ByteArray := ⟨#[111, 112]⟩
abbrev kLog : ByteArray := ⟨#[108, 111, 103, 105, 99, 97, 108]⟩
def wordsL : List Tok := [(kOp, [46, 97, 110, 100, 46]), (kOp, [46, 111, 114, 46]), (kOp, [46, 110, 111, 116, 46]), (kOp, [46, 101, 113, 118, 46]), (kLog, [46, 116, 114, 117, 101, 46]), (kLog, [46, 102, 97, 108, 115, 101, 46])]
def pairsL : List (List UInt8) := [[42, 42], [61, 61], [47, 61], [60, 61], [62, 61], [61, 62], [58, 58]]
def singlesL : List UInt8 := [43, 45, 42, 47, 60, 62, 61, 40, 41, 91, 93, 44, 58, 37]

/-- Whether a text in small letters begins at a place, in letters of any size. -/
def isW (L : List UInt8) (i : Nat) (t : List UInt8) : Bool := decide (i + t.length ≤ L.length ∧ low (sub L i (i + t.length)) = t)
def wordP (L : List UInt8) (i : Nat) : Option Tok := wordsL.find? fun w => isW L i w.2
def cO (c : Nat) : Bool := cL c && !cE c
def eqB (q c : Nat) : Bool := decide (c = q)
def neB (q c : Nat) : Bool := decide (c ≠ q)
/-- Whether a point at a place belongs to the digits ahead of it. -/
def pbP (L : List UInt8) (i : Nat) : Bool := eqB 46 (bt L i) && !cO (bt L (i + 1)) && !(wordP L i).isSome
/-- Where an exponent ends. -/
def expP (L : List UInt8) (i : Nat) : Nat :=
  if cE (bt L i) = true then
    let f := if cS (bt L (i + 1)) = true then i + 2 else i + 1
    let e := rn cD L f
    if e = f ∨ f + 3 < e then i else e
  else i
def nameP (L : List UInt8) (i : Nat) : Option (Tok × Nat) :=
  if rn cI L i - i ≤ 12 then some ((kName, low (sub L i (rn cI L i))), rn cI L i) else none
/-- A number's parts: where it ends, whether it is a real, how many digits it has. -/
def numE (L : List UInt8) (i : Nat) : Nat × Bool × Nat :=
  let e1 := rn cD L i
  let p := pbP L e1
  let e2 := if p = true then rn cD L (e1 + 1) else e1
  let n := if p = true then (e1 - i) + (e2 - e1 - 1) else e1 - i
  let e3 := expP L e2
  (e3, p || decide (e2 < e3), n)
def numP (L : List UInt8) (i : Nat) : Option (Tok × Nat) :=
  let r := numE L i
  if (if r.2.1 = true then 60 else 10) < r.2.2 ∨ cI (bt L r.1) = true then none
  else some ((if r.2.1 = true then kReal else kInt, low (sub L i r.1)), r.1)
/-- A text in quotes: what stands in it, and where it ends; k: what was kept so far. -/
def quoP (L : List UInt8) (q : Nat) (i : Nat) (k : List UInt8) : Option (List UInt8 × Nat) :=
  if rn (neB q) L i < L.length then
    if bt L (rn (neB q) L i + 1) = q then quoP L q (rn (neB q) L i + 2) (k ++ sub L i (rn (neB q) L i) ++ [q.toUInt8])
    else some (k ++ sub L i (rn (neB q) L i), rn (neB q) L i + 1)
  else none
termination_by L.length - i
decreasing_by have := rn_ge (neB q) L i; omega
def textP (L : List UInt8) (i : Nat) : Option (Tok × Nat) := (quoP L (bt L i) (i + 1) []).map fun r => ((kText, r.1), r.2)
def pairP (L : List UInt8) (i : Nat) : Option (List UInt8) := pairsL.find? fun p => p.isPrefixOf (L.drop i)
def opP (L : List UInt8) (i : Nat) : Option (Tok × Nat) :=
  match wordP L i with
  | some w => some (w, i + w.2.length)
  | none => match pairP L i with
    | some p => some ((kOp, p), i + p.length)
    | none => if (bt L i).toUInt8 ∈ singlesL then some ((kOp, [(bt L i).toUInt8]), i + 1) else none
/-- The token that stands at a place, and where it ends. -/
def nxtP (L : List UInt8) (i : Nat) : Option (Tok × Nat) :=
  if cL (bt L i) = true then nameP L i
  else if cD (bt L i) = true ∨ bt L i = 46 ∧ cD (bt L (i + 1)) = true then numP L i
  else if bt L i = 39 ∨ bt L i = 34 then textP L i
  else opP L i
theorem in_of {p : Nat → Bool} (h0 : p 0 = false) {L : List UInt8} {i : Nat} (h : p (bt L i) = true) : i < L.length := by
  rcases Nat.lt_or_ge i L.length with h1 | h1
  · exact h1
  · rw [bt_out h1, h0] at h; cases h
theorem expP_ge (L : List UInt8) (i : Nat) : i ≤ expP L i := by
  unfold expP
  split
  · simp only []
    have hf : i ≤ (if cS (bt L (i + 1)) = true then i + 2 else i + 1) := by split <;> omega
    generalize (if cS (bt L (i + 1)) = true then i + 2 else i + 1) = f at *
    have := rn_ge cD L f
    split <;> omega
  · exact Nat.le_refl _
theorem expP_le (L : List UInt8) (i : Nat) (hi : i ≤ L.length) : expP L i ≤ L.length := by
  unfold expP
  split
  · rename_i h
    have h1 := in_of (p := cE) rfl h
    simp only []
    have h2 : (if cS (bt L (i + 1)) = true then i + 2 else i + 1) ≤ L.length := by
      split
      · rename_i h; have := in_of (p := cS) rfl h; omega
      · omega
    generalize (if cS (bt L (i + 1)) = true then i + 2 else i + 1) = f at *
    have := rn_le cD L f h2
    split <;> omega
  · exact hi
theorem pbP_in {L : List UInt8} {i : Nat} (h : pbP L i = true) : i < L.length := by
  unfold pbP at h
  simp only [Bool.and_eq_true] at h
  exact in_of (p := eqB 46) rfl h.1.1
end Go.Proofs.YtcafnpfhjiaolaaDoor

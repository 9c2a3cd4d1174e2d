/- Contracts of the document's answer, further: the lists of words and signs, which of them begins a text. -/
import Derived.Test.YtcafnpfhjiaolaaDoorRefA
import Derived.Test.YtcafnpfhjiaolaaDoorTokP
namespace Go.Proofs.YtcafnpfhjiaolaaDoor
open Go.RowKit

/-- The words and the signs of the document's answer. -/
def rWords : List (List UInt8) := wordsL.map (·.2)
def rOps : List (List UInt8) := pairsL ++ [[43], [45], [42], [47], [60], [62], [61], [40], [41], [91], [93], [44], [58], [37]]
def scells (l : List (List UInt8)) : List Value := l.map fun t => .string ⟨t.toArray⟩

set_option maxRecDepth 100000 in
set_option maxHeartbeats 400000 in
theorem words_c (w : World) : Calls Tryd.prog 41 #[] w fun e w' => e = .returned (.slice (some ⟨w.heap.size, 0, none⟩) 6 6) ∧ w' = w.alloc (.cells (scells rWords).toArray 9) := by
  go_enter Tryd.func41, Tryd.ntmps41
  go_wp2
  go_ret
  exact ⟨rfl, rfl⟩
set_option maxRecDepth 100000 in
set_option maxHeartbeats 400000 in
theorem ops_c (w : World) : Calls Tryd.prog 42 #[] w fun e w' => e = .returned (.slice (some ⟨w.heap.size, 0, none⟩) 21 21) ∧ w' = w.alloc (.cells (scells rOps).toArray 9) := by
  go_enter Tryd.func42, Tryd.ntmps42
  go_wp2
  go_ret
  exact ⟨rfl, rfl⟩

/-- What starts answers. -/
def stP (l : List (List UInt8)) (L : List UInt8) : List UInt8 := (l.find? fun t => isW L 0 t).getD []
theorem st_some {l : List (List UInt8)} {L : List UInt8} {j : Nat} {tt : ByteArray} (h1 : ∀ t ∈ l.take j, isW L 0 t = false) (h2 : l[j]? = some tt.data.toList) (h3 : isW L 0 tt.data.toList = true) : stP l L = tt.data.toList := by
  unfold stP
  rw [find_at h1 h2 h3]; rfl
theorem st_none {l : List (List UInt8)} {L : List UInt8} (h1 : ∀ t ∈ l, isW L 0 t = false) : stP l L = [] := by
  unfold stP
  rw [List.find?_eq_none.2 (fun t ht => by simp [h1 t ht])]; rfl
theorem st_step {l : List (List UInt8)} {L : List UInt8} {j : Nat} {tt : ByteArray} (h1 : ∀ t ∈ l.take j, isW L 0 t = false) (h2 : l[j]? = some tt.data.toList) (h3 : isW L 0 tt.data.toList = false) : ∀ t ∈ l.take (j + 1), isW L 0 t = false := by
  intro t ht
  rw [List.take_add_one, h2] at ht
  simp only [Option.toList_some, List.mem_append, List.mem_singleton] at ht
  rcases ht with h | h
  · exact h1 t h
  · subst h; exact h3

theorem sk {w wp w' : World} {p : Addr} {v : Value} (h : Below w.heap.size w wp ∧ wp.cell? p = some v) (hb : Below wp.heap.size wp w') : Below w.heap.size w w' ∧ w'.cell? p = some v := ⟨bt_ h.1 hb, ck hb h.2⟩
theorem isW_eq0 (s tt : ByteArray) (h : tt.size ≤ s.size) : isW s.data.toList 0 tt.data.toList = (low (List.take tt.size s.data.toList) == tt.toList) := by
  have := isW_eq (L := s.data.toList) (i := 0) (tt := tt) (by simpa using h)
  rw [this]
  unfold sub
  rw [List.drop_zero]
  congr 3
  omega
/-- The relation at the head of starts' loop. -/
def SRelR (l : List (List UInt8)) (s : ByteArray) (w : World) (x : Value) (wr : World) : Prop :=
  ∃ j : Nat, j ≤ l.length ∧ x = .int .i64 (j : Int) ∧ (∀ t ∈ l.take j, isW s.data.toList 0 t = false) ∧ Below w.heap.size w wr

set_option maxRecDepth 100000 in
set_option maxHeartbeats 2000000 in
theorem starts_c (l : List (List UInt8)) (g c : Nat) (hlen : l.length ≤ 100) (hsz : ∀ t ∈ l, t.length ≤ 100) (s : ByteArray) (w : World) (hcell : ∀ j t, l[j]? = some t → w.cell? ⟨g, j, none⟩ = some (.string ⟨t.toArray⟩)) :
    Calls Tryd.prog 40 #[.slice (some ⟨g, 0, none⟩) l.length c, .string s] w fun e w' => e = .returned (.string ⟨(stP l s.data.toList).toArray⟩) ∧ Below w.heap.size w w' := by
  have Hcell := Lib.hid hcell; have Hsz := Lib.hid hsz
  clear hcell hsz
  go_enter Tryd.func40, Tryd.ntmps40
  go_wp2
  go_loopw [5] (fun x wr => SRelR l s w x wr) (fun x _ => l.length - (intOf x).toNat)
  case atStart => exact ⟨0, by omega, rfl, by simp, Below.refl _ _⟩
  case round =>
    obtain ⟨j, hj, rfl, hn, hB⟩ := hrel
    have Hn := Lib.hid hn; clear hn
    by_cases hlt : j < l.length
    · obtain ⟨tt, hg⟩ : ∃ tt : ByteArray, l[j]? = some tt.data.toList := ⟨⟨(l[j]'hlt).toArray⟩, List.getElem?_eq_getElem hlt⟩
      have hcj : wr.cell? ⟨g, j, none⟩ = some (.string tt) := by
        have := ck hB (Hcell.out j _ hg)
        simpa using this
      have hts : tt.size ≤ 100 := by
        have := Hsz.out tt.data.toList (List.mem_of_getElem? hg)
        simpa using this
      have Hg := Lib.hid hg; clear hg
      have hl : s.data.toList.length = s.size := by simp
      by_cases hfit : tt.size ≤ s.size
      · have hiw := isW_eq0 s tt hfit
        rcases hq : isW s.data.toList 0 tt.data.toList with _ | _
        · have hst := Lib.hid (st_step Hn.out Hg.out hq)
          have hc := hiw.symm.trans hq
          clear hiw hq hl
          have hd : decide ((tt.size : Int) ≤ (s.size : Int)) = true := by simp; omega
          go_wp2_with fail
          go_region_held3 (fun w' => Below w.heap.size w w' ∧ w'.cell? ⟨g, j, none⟩ = some (.string tt)) (first | exact ⟨hB.drew, hcj⟩ | exact sk (by assumption) hb') ((go_at_call 36; refine (rLower_c _ (by rw [ByteArray.size_extract]; omega) _).mono ?_; rintro e w' ⟨rfl, hb'⟩))
          obtain ⟨hB1, hcj1⟩ := ‹_ ∧ _›
          clear hb' hB hd
          go_wp2
          go_roundw
          case rel => exact ⟨j + 1, by omega, by go_num, hst.out, hB1⟩
          case measure => simp [intOf]; omega
        · have hst := Lib.hid (st_some Hn.out Hg.out hq)
          have hc := hiw.symm.trans hq
          clear hiw hq hl
          have hd : decide ((tt.size : Int) ≤ (s.size : Int)) = true := by simp; omega
          go_wp2_with fail
          go_region_held3 (fun w' => Below w.heap.size w w' ∧ w'.cell? ⟨g, j, none⟩ = some (.string tt)) (first | exact ⟨hB.drew, hcj⟩ | exact sk (by assumption) hb') ((go_at_call 36; refine (rLower_c _ (by rw [ByteArray.size_extract]; omega) _).mono ?_; rintro e w' ⟨rfl, hb'⟩))
          obtain ⟨hB1, hcj1⟩ := ‹_ ∧ _›
          clear hb' hB hd
          go_wp2
          go_ret
          exact ⟨by rw [hst.out]; rfl, hB1⟩
      · have hd : decide ((tt.size : Int) ≤ (s.size : Int)) = false := by simp; omega
        have hst := Lib.hid (st_step Hn.out Hg.out (isW_lt (by simpa using hfit)))
        clear hl
        go_wp2_with fail
        go_quiet (fail)
        go_wp2
        go_roundw
        case rel => exact ⟨j + 1, by omega, by go_num, hst.out, below_drewN hB nq⟩
        case measure => simp [intOf]; omega
    · obtain rfl : j = l.length := by omega
      have hst := Lib.hid (st_none (l := l) (L := s.data.toList) (by have := Hn.out; rwa [List.take_length] at this))
      go_wp2
      go_ret
      exact ⟨by rw [hst.out]; rfl, hB⟩
end Go.Proofs.YtcafnpfhjiaolaaDoor

/- Contract of newReader: the lines of a text, and the least one that both forms refuse. -/
import Derived.Test.YtdandmbgdndnjaaGreatDoorSrcU
import Derived.Lib.SplitLaws
namespace Go.Proofs.YtdandmbgdndnjaaGreatDoor
open Go.RowKit

/-- The lines of a text. -/
def lns (s : ByteArray) : List ByteArray := Lib.splitB ⟨#[10]⟩ 0 (Lib.countB s ⟨#[10]⟩) s
theorem lns_len (s : ByteArray) : (lns s).length = Lib.countB s ⟨#[10]⟩ + 1 := Lib.splitB_all ⟨#[10]⟩ (by decide) 0 _ s rfl
theorem splitB_sz (sep : ByteArray) : ∀ (k : Nat) (s x : ByteArray), x ∈ Lib.splitB sep 0 k s → x.size ≤ s.size
  | 0, s, x, h => by
    rw [Lib.splitB_zero, List.mem_singleton] at h
    rw [h]; exact Nat.le_refl _
  | k + 1, s, x, h => by
    unfold Lib.splitB at h
    split at h
    · rw [List.mem_singleton] at h
      rw [h]; exact Nat.le_refl _
    · rcases List.mem_cons.1 h with h | h
      · rw [h, ByteArray.size_extract]; omega
      · have := splitB_sz sep k _ x h
        rw [ByteArray.size_extract] at this
        omega
theorem lns_sz {s x : ByteArray} (h : x ∈ lns s) : x.size ≤ s.size := splitB_sz _ _ _ _ h
/-- The least line that both forms refuse, from the k-th on. -/
def nrW (wd : Nat) : List ByteArray → Nat → Nat → Nat
  | [], _, l => l
  | x :: xs, k, l => nrW wd xs (k + 1) (if wd < x.size ∨ prB x.data.toList = false then wrN l (k + 1) else l)
theorem wrN_le {l a n : Nat} (h1 : l ≤ n) (h2 : a ≤ n) : wrN l a ≤ n := by unfold wrN; split <;> omega
theorem nrW_at {wd : Nat} {xs : List ByteArray} {x : ByteArray} {k l : Nat} (h : xs[k]? = some x) : nrW wd (xs.drop k) k l = nrW wd (xs.drop (k + 1)) (k + 1) (if wd < x.size ∨ prB x.data.toList = false then wrN l (k + 1) else l) := by
  obtain ⟨hk, rfl⟩ := List.getElem?_eq_some_iff.1 h
  rw [List.drop_eq_getElem_cons hk]
  rfl

/-- The relation at the head of newReader's loop. -/
def NRel (wd : Nat) (xs : List ByteArray) (lb rb : Nat) (ls : Value) (w : World) (t : Value) (wr : World) : Prop :=
  ∃ (k l : Nat), k ≤ xs.length ∧ l ≤ k ∧ t = .int .i64 (k : Int) ∧ Has wr rb [ls, .slice none 0 0, .int .i64 (l : Int)] ∧ Has wr lb (xs.map .string) ∧ nrW wd (xs.drop k) k l = nrW wd xs 0 0 ∧ Below w.heap.size w wr

/-- What newReader leaves: the lines' block, and behind it the reader. -/
def NrPost (wd : Nat) (s : ByteArray) (w : World) (e : Ending) (w' : World) : Prop :=
  e = .returned (.pointer (some ⟨w.heap.size + 1, 0, none⟩)) ∧ Has w' (w.heap.size + 1) [.slice (some ⟨w.heap.size, 0, none⟩) (lns s).length (lns s).length, .slice none 0 0, .int .i64 (nrW wd (lns s) 0 0 : Int)] ∧
    Has w' w.heap.size ((lns s).map .string) ∧ nrW wd (lns s) 0 0 ≤ (lns s).length ∧ Below w.heap.size w w'

set_option maxRecDepth 100000 in
set_option maxHeartbeats 2000000 in
theorem newReader_c (s : ByteArray) (hs : s.size ≤ 1000000) (wd : Nat) (m : Int) (w : World) (hm : w.cell? ⟨0, 0, none⟩ = some (.int .i64 m)) (hc : Lib.countB s ⟨#[10]⟩ ≤ 900000) :
    Calls Tryz.prog 35 #[.string s, .int .i64 (wd : Int)] w (NrPost wd s w) := by
  have HS := Lib.hid (Tryz.strings_Split s ⟨#[10]⟩ m w (by omega) hm (by decide))
  have Hlen := Lib.hid (lns_len s)
  have Hsz := Lib.hid (fun x => @lns_sz s x)
  have Hl := Lib.hid (show Lib.splitB ⟨#[10]⟩ 0 (Lib.countB s ⟨#[10]⟩) s = lns s from rfl)
  generalize hxs : lns s = xs at *
  have HP : ∀ e w', (e = .returned (.pointer (some ⟨w.heap.size + 1, 0, none⟩)) ∧ Has w' (w.heap.size + 1) [.slice (some ⟨w.heap.size, 0, none⟩) xs.length xs.length, .slice none 0 0, .int .i64 (nrW wd xs 0 0 : Int)] ∧
    Has w' w.heap.size (xs.map .string) ∧ nrW wd xs 0 0 ≤ xs.length ∧ Below w.heap.size w w') → NrPost wd s w e w' := by
    intro e w' h; unfold NrPost; rw [hxs]; exact h
  have HP := Lib.hid HP
  clear hm hxs
  generalize Lib.countB s ⟨#[10]⟩ = c at *
  go_enter Tryz.func35, Tryz.ntmps35
  go_wp2_with fail
  refine HS.out.mono ?_
  rw [Hl.out]
  rintro e w1 ⟨rfl, hw1⟩
  have hn : w1.heap.size = w.heap.size + 1 := by rw [hw1]; simp
  have hB : Below w.heap.size w w1 := by rw [hw1]; exact (Below.refl _ _).alloc (Nat.le_refl _) _
  have hL : Has w1 w.heap.size (xs.map .string) := by rw [hw1]; exact Has.new w (xs.map .string) 9
  have Hn := Lib.hid hn
  have HL := Lib.hid hL
  clear hn hL hw1
  go_wp2_with fail
  have hxl := Hlen.out
  have hbx := Has.new w1 [.slice (some ⟨w.heap.size, 0, none⟩) (c + 1) (c + 1), .slice none 0 0, .int .i64 0] 79
  have hl1 := HL.out.alloc (.cells #[.slice (some ⟨w.heap.size, 0, none⟩) (c + 1) (c + 1), .slice none 0 0, .int .i64 0] 79)
  have hb1 := hB.alloc hB.size (.cells #[.slice (some ⟨w.heap.size, 0, none⟩) (c + 1) (c + 1), .slice none 0 0, .int .i64 0] 79)
  have hst : NRel wd xs w.heap.size w1.heap.size (.slice (some ⟨w.heap.size, 0, none⟩) (c + 1) (c + 1)) w (.int .i64 0) (w1.alloc (.cells #[.slice (some ⟨w.heap.size, 0, none⟩) (c + 1) (c + 1), .slice none 0 0, .int .i64 0] 79)) :=
    ⟨0, 0, by omega, by omega, rfl, hbx, hl1, by rw [List.drop_zero], hb1⟩
  have Hst := Lib.hid hst
  clear hbx hl1 hb1 hst hB hxl
  go_loopw [17] (fun t wr => NRel wd xs w.heap.size w1.heap.size (.slice (some ⟨w.heap.size, 0, none⟩) (c + 1) (c + 1)) w t wr) (fun t _ => c + 1 - (intOf t).toNat)
  case atStart => exact Hst.out
  case round =>
    obtain ⟨k, l, hk, hlk, rfl, hr, hL, hq, hB⟩ := hrel
    have hxl : xs.length = c + 1 := Hlen.out
    have hn1 := Hn.out
    have hc0 : (0 : Int) ≤ (k : Int) := by omega
    have hkc : k ≤ c + 1 := by omega
    have hlc : l ≤ 1000000 := by omega
    by_cases hlt : k < c + 1
    · obtain ⟨x, hx⟩ : ∃ x, xs[k]? = some x := ⟨_, List.getElem?_eq_getElem (by omega)⟩
      have hcx : wr.cell? ⟨w.heap.size, k, none⟩ = some (.string x) := (hL k _ (by rw [List.getElem?_map, hx]; rfl)).1
      have hxs : x.size ≤ 1000000 := by have := Hsz.out x (List.mem_of_getElem? hx); omega
      rw [nrW_at hx] at hq
      have hr0 := hr.c3.1
      have HR := Lib.hid hr; have HL2 := Lib.hid hL; have Hq := Lib.hid hq; have HX := Lib.hid hx
      clear hr hL hq hx hxl hn1
      by_cases hw : wd < x.size
      · have f1 : decide ((wd : Int) < (x.size : Int)) = true := by simp; omega
        have f2 : decide (wd < x.size) = true := by simp; omega
        go_wp2_with fail
        refine (wrong_c w1.heap.size _ _ l (k + 1) wr HR.out hlc).mono ?_
        rintro e w3 ⟨rfl, hh, hkb⟩
        have hL3 := HL2.out.kb hkb (by show ¬ w.heap.size = w1.heap.size; rw [Hn.out]; omega)
        have hB3 : Below w.heap.size w w3 := KB.below hB hkb (by rintro i rfl; rw [Hn.out]; omega) hB.size
        clear hkb hB
        go_wp2
        go_roundw
        case rel => exact ⟨k + 1, wrN l (k + 1), by rw [Hlen.out]; omega, wrN_le (by omega) (by omega), by go_num, hh, hL3, by rw [if_pos (Or.inl hw)] at Hq; exact Hq.out, hB3⟩
        case measure => simp [intOf]; omega
      · have f1 : decide ((wd : Int) < (x.size : Int)) = false := by simp; omega
        have f2 : decide (wd < x.size) = false := by simp; omega
        generalize hp : prB x.data.toList = p
        have Hp := Lib.hid hp
        clear hp
        cases p
        · go_wp2_with fail
          refine (printable_c x wr).mono ?_
          rw [Hp.out]
          rintro e w2 ⟨rfl, hB2⟩
          go_wp2_with fail
          refine (wrong_c w1.heap.size _ _ l (k + 1) w2 (HR.out.keep hB2) hlc).mono ?_
          rintro e w3 ⟨rfl, hh, hkb⟩
          have hL3 := (HL2.out.keep hB2).kb hkb (by show ¬ w.heap.size = w1.heap.size; rw [Hn.out]; omega)
          have hBB := bt_ hB hB2
          have hB3 : Below w.heap.size w w3 := KB.below hBB hkb (by rintro i rfl; rw [Hn.out]; omega) hBB.size
          clear hkb hB hB2 hBB
          go_wp2
          go_roundw
          case rel => exact ⟨k + 1, wrN l (k + 1), by rw [Hlen.out]; omega, wrN_le (by omega) (by omega), by go_num, hh, hL3, by rw [if_pos (Or.inr Hp.out)] at Hq; exact Hq.out, hB3⟩
          case measure => simp [intOf]; omega
        · go_wp2_with fail
          refine (printable_c x wr).mono ?_
          rw [Hp.out]
          rintro e w2 ⟨rfl, hB2⟩
          have hBB := bt_ hB hB2
          clear hB
          go_wp2
          go_roundw
          case rel => exact ⟨k + 1, l, by rw [Hlen.out]; omega, by omega, by go_num, HR.out.keep hB2, HL2.out.keep hB2, by rw [if_neg (by rw [Hp.out]; simp; omega)] at Hq; exact Hq.out, hBB⟩
          case measure => simp [intOf]; omega
    · obtain rfl : k = c + 1 := by omega
      have hfin : nrW wd xs 0 0 = l := by rw [← hq, List.drop_of_length_le (by omega)]; rfl
      have hP := HP.out (.returned (.pointer (some ⟨w.heap.size + 1, 0, none⟩))) wr ⟨rfl, by rw [hfin, ← hn1, hxl]; exact hr, hL, by rw [hfin]; omega, hB⟩
      rw [← hn1] at hP
      have HPp := Lib.hid hP
      clear hP hfin hq hxl hn1 hr hL
      go_wp2
      go_ret
      exact HPp.out
end Go.Proofs.YtdandmbgdndnjaaGreatDoor

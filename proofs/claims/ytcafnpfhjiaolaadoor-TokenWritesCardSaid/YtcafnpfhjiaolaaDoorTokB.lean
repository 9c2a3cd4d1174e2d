/- Contracts of package token's wordAt: the word in dots that begins at a place. -/
import Derived.Test.YtcafnpfhjiaolaaDoorTokA
import Derived.Deep.RegionHeld3
import Derived.Deep.QuietTactic
import Derived.BigQuiet
import Derived.RegionTactic
namespace Go.Proofs.YtcafnpfhjiaolaaDoor
open Go.RowKit

abbrev tkv (t : Tok) : Value := .agg #[.string t.1, .string ⟨t.2.toArray⟩]
abbrev noTk : Value := .agg #[.string ⟨#[]⟩, .string ⟨#[]⟩]

/-- What wordAt answers. -/
def wordV : Option Tok → Value
  | some t => .tuple #[tkv t, .bool true]
  | none => .tuple #[noTk, .bool false]

theorem ret_s {a b : List UInt8} (h : a = b) : Value.string ⟨a.toArray⟩ = Value.string ⟨b.toArray⟩ := by rw [h]

theorem cell_of_tab {w : World} {g : Nat} {cs : Array Value} {t : TypeId} {fr : Nat × Nat} (h : w.heap[g]? = some (.cells cs t fr)) (k : Nat) (v : Value) (hv : cs[k]? = some v) : w.cell? ⟨g, k, none⟩ = some v := by
  rw [cell_of_row w g k cs t fr h]; exact hv

theorem tab1 {w : World} (h : TB w) (o : Obj) (k : Nat) (v : Value) (hv : wordsA[k]? = some v) : (w.alloc o).cell? ⟨1, k, none⟩ = some v := by
  obtain ⟨_, ⟨t, fr, h1⟩, _⟩ := h
  exact ck ((Below.refl _ _).alloc (Nat.le_refl _) _) (cell_of_tab h1 k v hv)
theorem isW_lt {L : List UInt8} {i : Nat} {t : List UInt8} (h : ¬ i + t.length ≤ L.length) : isW L i t = false := by
  unfold isW; simp; omega

abbrev wordsV : Value := .agg #[.string ⟨#[111, 112]⟩, .string ⟨#[46, 97, 110, 100, 46]⟩, .string ⟨#[111, 112]⟩, .string ⟨#[46, 111, 114, 46]⟩, .string ⟨#[111, 112]⟩, .string ⟨#[46, 110, 111, 116, 46]⟩, .string ⟨#[111, 112]⟩, .string ⟨#[46, 101, 113, 118, 46]⟩, .string ⟨#[108, 111, 103, 105, 99, 97, 108]⟩, .string ⟨#[46, 116, 114, 117, 101, 46]⟩, .string ⟨#[108, 111, 103, 105, 99, 97, 108]⟩, .string ⟨#[46, 102, 97, 108, 115, 101, 46]⟩]
/-- The word at an index of the table. -/
theorem word_ix (j : Nat) (hj : j < 6) : ∃ (kk : ByteArray) (tt : ByteArray), (∀ w : World, (Instr.index 72 wordsV (.int .i64 (j : Int))).run Tryd.prog w = .ok (.agg #[.string kk, .string tt]) w) ∧ wordsL[j]? = some (kk, tt.data.toList) ∧ 4 ≤ tt.size ∧ tt.size ≤ 7 := by
  match j, hj with
  | 0, _ => exact ⟨⟨#[111, 112]⟩, ⟨#[46, 97, 110, 100, 46]⟩, fun _ => by kernel_rfl, rfl, by decide, by decide⟩
  | 1, _ => exact ⟨⟨#[111, 112]⟩, ⟨#[46, 111, 114, 46]⟩, fun _ => by kernel_rfl, rfl, by decide, by decide⟩
  | 2, _ => exact ⟨⟨#[111, 112]⟩, ⟨#[46, 110, 111, 116, 46]⟩, fun _ => by kernel_rfl, rfl, by decide, by decide⟩
  | 3, _ => exact ⟨⟨#[111, 112]⟩, ⟨#[46, 101, 113, 118, 46]⟩, fun _ => by kernel_rfl, rfl, by decide, by decide⟩
  | 4, _ => exact ⟨⟨#[108, 111, 103, 105, 99, 97, 108]⟩, ⟨#[46, 116, 114, 117, 101, 46]⟩, fun _ => by kernel_rfl, rfl, by decide, by decide⟩
  | 5, _ => exact ⟨⟨#[108, 111, 103, 105, 99, 97, 108]⟩, ⟨#[46, 102, 97, 108, 115, 101, 46]⟩, fun _ => by kernel_rfl, rfl, by decide, by decide⟩
theorem find_at {α : Type} {p : α → Bool} : ∀ {l : List α} {j : Nat} {x : α}, (∀ t ∈ l.take j, p t = false) → l[j]? = some x → p x = true → l.find? p = some x
  | a :: l, 0, x, _, h2, h3 => by
    simp at h2; subst h2; simp [h3]
  | a :: l, j + 1, x, h1, h2, h3 => by
    have ha := h1 a (by simp)
    rw [List.find?_cons, ha]
    exact find_at (j := j) (fun t ht => h1 t (by rw [List.take_succ_cons]; exact List.mem_cons_of_mem _ ht)) (by simpa using h2) h3
theorem word_some {L : List UInt8} {i j : Nat} {kk tt : ByteArray} (h1 : ∀ t ∈ wordsL.take j, isW L i t.2 = false) (h2 : wordsL[j]? = some (kk, tt.data.toList)) (h3 : isW L i tt.data.toList = true) : wordP L i = some (kk, tt.data.toList) := find_at h1 h2 h3
theorem word_none {L : List UInt8} {i : Nat} (h1 : ∀ t ∈ wordsL.take 6, isW L i t.2 = false) : wordP L i = none := by
  unfold wordP
  rw [List.find?_eq_none]
  intro t ht
  have := h1 t (by rw [show wordsL.take 6 = wordsL from rfl]; exact ht)
  simp [this]
theorem word_step {L : List UInt8} {i j : Nat} {kk tt : ByteArray} (h1 : ∀ t ∈ wordsL.take j, isW L i t.2 = false) (h2 : wordsL[j]? = some (kk, tt.data.toList)) (h3 : isW L i tt.data.toList = false) : ∀ t ∈ wordsL.take (j + 1), isW L i t.2 = false := by
  intro t ht
  rw [List.take_add_one, h2] at ht
  simp only [Option.toList_some, List.mem_append, List.mem_singleton] at ht
  rcases ht with h | h
  · exact h1 t h
  · subst h; exact h3
theorem isW_eq {L : List UInt8} {i : Nat} {tt : ByteArray} (h : i + tt.size ≤ L.length) : isW L i tt.data.toList = (low (sub L i ((i : Int) + (tt.size : Int)).toNat) == tt.toList) := by
  unfold isW
  have e : ((i : Int) + (tt.size : Int)).toNat = i + tt.size := by omega
  have e2 : tt.data.toList.length = tt.size := by simp
  rw [e, e2, Lib.toList_data, Bool.eq_iff_iff]
  simp [h]
theorem res54 (tm : Array Value) (R : Nat) (a b : Value) (c : Bool) (w : World) (hp : tm[4]?.getD undef = .pointer (some ⟨R, 0, none⟩)) (h5 : tm[5]?.getD undef = .bool c) (h : Has w R [a, b]) :
    (results Tryd.f54 tm).run Tryd.prog w = .ok (.tuple #[.agg #[a, b], .bool c]) w := by
  obtain ⟨h0, h1⟩ := h.c2
  simp [results, Tryd.results54, go_sem, hp, h5, h0, h1]
theorem Has.set2 {w : World} {n : Nat} {p q : Value} (a b : Value) (h : Has w n [p, q]) : Has ((w.setCell ⟨n, 0, none⟩ a).setCell ⟨n, 1, none⟩ b) n [a, b] := (h.set).set
abbrev WKeep (w : World) (n : Nat) (kk tt : ByteArray) (w' : World) : Prop := Below w.heap.size w w' ∧ Has w' w.heap.size [.string ⟨#[]⟩, .string ⟨#[]⟩] ∧ Has w' n [.string kk, .string tt] ∧ w'.cell? ⟨n, 1, none⟩ = some (.string tt)
theorem wkeep_keep {w wp w' : World} {n : Nat} {kk tt : ByteArray} (h : WKeep w n kk tt wp) (hb : Below wp.heap.size wp w') : WKeep w n kk tt w' :=
  ⟨bt_ h.1 hb, h.2.1.keep hb, h.2.2.1.keep hb, (h.2.2.1.keep hb).c2.2⟩
theorem wkeep_start {w wr : World} {kk tt : ByteArray} (hb : Below w.heap.size w wr) (hR : Has wr w.heap.size [.string ⟨#[]⟩, .string ⟨#[]⟩]) : WKeep w wr.heap.size kk tt (wr.alloc (.cells #[.string kk, .string tt] 30)).drew :=
  ⟨(hb.alloc hb.size _).drew, hR.alloc _, Has.new _ _ _, (Has.new wr [.string kk, .string tt] 30).c2.2⟩
/-- The relation at the head of wordAt's loop. -/
def WRel (s : ByteArray) (i : Nat) (w : World) (x : Value) (wr : World) : Prop :=
  ∃ j : Nat, j ≤ 6 ∧ x = .int .i64 (j : Int) ∧ (∀ t ∈ wordsL.take j, isW s.data.toList i t.2 = false) ∧ Below w.heap.size w wr ∧ Has wr w.heap.size [.string ⟨#[]⟩, .string ⟨#[]⟩]

set_option maxRecDepth 100000 in
set_option maxHeartbeats 2000000 in
theorem wordAt_c (s : ByteArray) (i : Nat) (hi : i ≤ s.size) (hs : s.size ≤ 1000000) (ha : Asc s) (w : World) (ht : TB w) :
    Calls Tryd.prog 54 #[.string s, .int .i64 (i : Int)] w fun e w' => e = .returned (wordV (wordP s.data.toList i)) ∧ Below w.heap.size w w' := by
  have k0 := tab1 ht (.cells #[.string ⟨#[]⟩, .string ⟨#[]⟩] 30) 0 (.string ⟨#[111, 112]⟩) rfl
  have k1 := tab1 ht (.cells #[.string ⟨#[]⟩, .string ⟨#[]⟩] 30) 1 (.string ⟨#[46, 97, 110, 100, 46]⟩) rfl
  have k2 := tab1 ht (.cells #[.string ⟨#[]⟩, .string ⟨#[]⟩] 30) 2 (.string ⟨#[111, 112]⟩) rfl
  have k3 := tab1 ht (.cells #[.string ⟨#[]⟩, .string ⟨#[]⟩] 30) 3 (.string ⟨#[46, 111, 114, 46]⟩) rfl
  have k4 := tab1 ht (.cells #[.string ⟨#[]⟩, .string ⟨#[]⟩] 30) 4 (.string ⟨#[111, 112]⟩) rfl
  have k5 := tab1 ht (.cells #[.string ⟨#[]⟩, .string ⟨#[]⟩] 30) 5 (.string ⟨#[46, 110, 111, 116, 46]⟩) rfl
  have k6 := tab1 ht (.cells #[.string ⟨#[]⟩, .string ⟨#[]⟩] 30) 6 (.string ⟨#[111, 112]⟩) rfl
  have k7 := tab1 ht (.cells #[.string ⟨#[]⟩, .string ⟨#[]⟩] 30) 7 (.string ⟨#[46, 101, 113, 118, 46]⟩) rfl
  have k8 := tab1 ht (.cells #[.string ⟨#[]⟩, .string ⟨#[]⟩] 30) 8 (.string ⟨#[108, 111, 103, 105, 99, 97, 108]⟩) rfl
  have k9 := tab1 ht (.cells #[.string ⟨#[]⟩, .string ⟨#[]⟩] 30) 9 (.string ⟨#[46, 116, 114, 117, 101, 46]⟩) rfl
  have k10 := tab1 ht (.cells #[.string ⟨#[]⟩, .string ⟨#[]⟩] 30) 10 (.string ⟨#[108, 111, 103, 105, 99, 97, 108]⟩) rfl
  have k11 := tab1 ht (.cells #[.string ⟨#[]⟩, .string ⟨#[]⟩] 30) 11 (.string ⟨#[46, 102, 97, 108, 115, 101, 46]⟩) rfl
  have Ha := Lib.hid ha; clear ha
  have Ht := Lib.hid ht; clear ht
  go_enter Tryd.func54, Tryd.ntmps54
  go_wp2
  go_loopw [10] (fun x wr => WRel s i w x wr) (fun x wr => 6 - (intOf x).toNat)
  case atStart => exact ⟨0, by omega, rfl, by simp, (Below.refl _ _).alloc (Nat.le_refl _) _, Has.new _ _ _⟩
  case round =>
    clear k0 k1 k2 k3 k4 k5 k6 k7 k8 k9 k10 k11
    obtain ⟨j, hj, rfl, hn, hb, hR⟩ := hrel
    have hlt := hR.lt
    have Hn := Lib.hid hn; clear hn
    by_cases hj6 : j < 6
    · obtain ⟨kk, tt, hix, hg, hn4, hn7⟩ := word_ix j hj6
      have Hg := Lib.hid hg; clear hg
      by_cases hfit : i + tt.size ≤ s.size
      · have hl : s.data.toList.length = s.size := by simp
        have hiw := isW_eq (L := s.data.toList) (i := i) (tt := tt) (by omega)
        clear hl
        rcases hq : isW s.data.toList i tt.data.toList with _ | _
        · have hst := Lib.hid (word_step Hn.out Hg.out hq)
          have hc := hiw.symm.trans hq
          clear hiw hq
          have hd : decide ((i : Int) + (tt.size : Int) ≤ (s.size : Int)) = true := by simp; omega
          have hd1 : (0 : Int) ≤ (i : Int) + (tt.size : Int) ∧ (i : Int) + (tt.size : Int) ≤ (s.size : Int) := by omega
          have hd2 : (i : Int) ≤ (i : Int) + (tt.size : Int) := by omega
          go_wp2_with fail
          go_region_held3 (fun w' => Below w.heap.size w w' ∧ Has w' w.heap.size [.string ⟨#[]⟩, .string ⟨#[]⟩] ∧ Has w' wr.heap.size [.string kk, .string tt] ∧ w'.cell? ⟨wr.heap.size, 1, none⟩ = some (.string tt)) (first | exact wkeep_start hb hR | exact wkeep_keep (by assumption) hb') ((go_at_call 48; refine (lower_c s i _ hs Ha.out _).mono ?_; rintro e w' ⟨rfl, hb'⟩))
          obtain ⟨hB1, hR1, hX1, hx1⟩ := ‹_ ∧ _›
          obtain ⟨hr0, hr1⟩ := hR1.c2
          obtain ⟨hq0, hq1⟩ := hR1.f2
          obtain ⟨hy0, hy1⟩ := hX1.c2
          clear hx1 hb' hb hd hd1 hd2 hix
          go_wp2
          go_roundw
          case rel => exact ⟨j + 1, by omega, by go_num, hst.out, hB1, hR1⟩
          case measure => simp [intOf]; omega
        · have hst := Lib.hid (word_some Hn.out Hg.out hq)
          have hc := hiw.symm.trans hq
          clear hiw hq
          have hd : decide ((i : Int) + (tt.size : Int) ≤ (s.size : Int)) = true := by simp; omega
          have hd1 : (0 : Int) ≤ (i : Int) + (tt.size : Int) ∧ (i : Int) + (tt.size : Int) ≤ (s.size : Int) := by omega
          have hd2 : (i : Int) ≤ (i : Int) + (tt.size : Int) := by omega
          go_wp2_with fail
          go_region_held3 (fun w' => Below w.heap.size w w' ∧ Has w' w.heap.size [.string ⟨#[]⟩, .string ⟨#[]⟩] ∧ Has w' wr.heap.size [.string kk, .string tt] ∧ w'.cell? ⟨wr.heap.size, 1, none⟩ = some (.string tt)) (first | exact wkeep_start hb hR | exact wkeep_keep (by assumption) hb') ((go_at_call 48; refine (lower_c s i _ hs Ha.out _).mono ?_; rintro e w' ⟨rfl, hb'⟩))
          obtain ⟨hB1, hR1, hX1, hx1⟩ := ‹_ ∧ _›
          obtain ⟨hr0, hr1⟩ := hR1.c2
          obtain ⟨hq0, hq1⟩ := hR1.f2
          obtain ⟨hy0, hy1⟩ := hX1.c2
          clear hx1 hb' hb hd hd1 hd2 hix
          go_wp2
          rw [hst.out]
          exact bodyPost_ret (v := .tuple #[.agg #[.string kk, .string tt], .bool true]) (res54 _ _ _ _ _ _ rfl rfl (hR1.set2 _ _)) rfl ⟨rfl, (hB1.st (Nat.le_refl _)).st (Nat.le_refl _)⟩
      · have hd : decide ((i : Int) + (tt.size : Int) ≤ (s.size : Int)) = false := by simp; omega
        go_wp2_with fail
        go_quiet (fail)
        have hB1 : Below w.heap.size w ((wr.alloc (.cells #[.string kk, .string tt] 30)).drewN nq) := below_drewN (hb.alloc hb.size _) nq
        have hR1 : Has ((wr.alloc (.cells #[.string kk, .string tt] 30)).drewN nq) w.heap.size [.string ⟨#[]⟩, .string ⟨#[]⟩] := (hR.alloc _).drewN nq
        have hst := Lib.hid (word_step Hn.out Hg.out (isW_lt (by simpa using hfit)))
        clear hix hd
        go_wp2
        go_roundw
        case rel => exact ⟨j + 1, by omega, by go_num, hst.out, hB1, hR1⟩
        case measure => simp [intOf]; omega
    · obtain rfl : j = 6 := by omega
      have hst := Lib.hid (word_none Hn.out)
      obtain ⟨hr0, hr1⟩ := hR.c2
      obtain ⟨hq0, hq1⟩ := hR.f2
      go_wp2
      rw [hst.out]
      exact bodyPost_ret (v := .tuple #[.agg #[.string ⟨#[]⟩, .string ⟨#[]⟩], .bool false]) (res54 _ _ _ _ _ _ rfl rfl (hR.set2 _ _)) rfl ⟨rfl, (hb.st (Nat.le_refl _)).st (Nat.le_refl _)⟩
end Go.Proofs.YtcafnpfhjiaolaaDoor

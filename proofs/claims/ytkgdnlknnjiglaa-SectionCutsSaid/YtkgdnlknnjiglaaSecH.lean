/- Contracts of reach and of the search for a subscript that is none. -/
import Derived.Test.YtkgdnlknnjiglaaSecG
import Derived.Test.YtkgdnlknnjiglaaSecB
namespace Go.Proofs.Ytkgdnlknnjiglaa
open Go.RowKit

/-- A subscript of a section. -/
structure SB where
  is : Bool
  one : Int
  lo : Int
  hi : Int
  st : Int
def SB.v (s : SB) : Value := .agg #[.bool s.is, .int .i64 s.one, .int .i64 s.lo, .int .i64 s.hi, .int .i64 s.st]
def scells (l : List SB) : List Value := l.flatMap fun s => [.bool s.is, .int .i64 s.one, .int .i64 s.lo, .int .i64 s.hi, .int .i64 s.st]
/-- One that is a number, or a triple. -/
def okS (s : SB) : Bool := s.is || triB s.lo s.hi s.st
def nS (s : SB) : Int := if s.is = true then 1 else cnt s.lo s.hi s.st
def fS (s : SB) : Int := if s.is = true then s.one else if cnt s.lo s.hi s.st = 0 then 0 else s.lo
def lS (s : SB) : Int := if s.is = true then s.one else if cnt s.lo s.hi s.st = 0 then 0 else s.lo + (cnt s.lo s.hi s.st - 1) * s.st
def rcR (s : SB) : Value := .tuple #[.int .i64 (fS s), .int .i64 (lS s), .int .i64 (nS s)]
theorem res59 (tm : Array Value) (a b c : Value) (w : World) (h2 : tm[2]?.getD undef = a) (h3 : tm[3]?.getD undef = b) (h4 : tm[4]?.getD undef = c) :
    (results Try.f59 tm).run Try.prog w = .ok (.tuple #[a, b, c]) w := by
  simp [results, Try.results59, go_sem, h2, h3, h4]
set_option maxHeartbeats 1000000 in
theorem reach_c (s : SB) (w : World) (h : okS s = true) : Calls Try.prog 59 #[s.v] w fun e w' => e = .returned (rcR s) ∧ Below w.heap.size w w' := by
  obtain ⟨is, one, lo, hi, st⟩ := s
  cases is
  · have ht : triB lo hi st = true := by simpa [okS] using h
    have HC := Lib.hid fun w => Count_c lo hi st w
    rw [cntR_yes ht] at HC
    have hs := cnt_sums ht
    have hb := cnt_bd ht
    obtain ⟨h1, h2, h3, h4⟩ := tri_iff.1 ht
    rw [near_iff] at h1 h2 h3
    have HR := Lib.hid (show ∃ r, r = rcR ⟨false, one, lo, hi, st⟩ from ⟨_, rfl⟩)
    obtain ⟨r, hr⟩ := HR.out
    have HR := Lib.hid hr
    rw [← hr]
    unfold rcR fS lS nS at HR
    simp only [Bool.false_eq_true, if_false] at HR
    generalize cnt lo hi st = c at *
    clear h ht hr h4
    unfold SB.v
    by_cases h0 : c = 0
    · rw [if_pos h0, if_pos h0] at HR
      have f0 : (c == 0) = true := by simpa using h0
      have HX := Lib.hid (show r = .tuple #[.int .i64 0, .int .i64 0, .int .i64 0] by rw [HR.out, h0])
      clear h0 HR hs
      go_enter Try.func59, Try.ntmps59
      go_wp2_with fail
      refine (HC.out _).mono ?_
      rintro e w1 ⟨rfl, hb1⟩
      have HB := Lib.hid ((box_below w _).trans (hb1.mono (box_below w _).size))
      clear hb1
      go_wp2
      exact bodyPost_ret (res59 _ _ _ _ _ rfl rfl rfl) rfl ⟨congrArg Ending.returned HX.out.symm, HB.out⟩
    · rw [if_neg h0, if_neg h0] at HR
      have f0 : (c == 0) = false := by simpa using h0
      have hc0 : 1 ≤ c := by omega
      clear h0
      go_enter Try.func59, Try.ntmps59
      go_wp2_with fail
      refine (HC.out _).mono ?_
      rintro e w1 ⟨rfl, hb1⟩
      have hh := (Has.new w [.bool false, .int .i64 one, .int .i64 lo, .int .i64 hi, .int .i64 st] 57).keep hb1
      have g2 := (hh 2 _ rfl).1; have g4 := (hh 4 _ rfl).1
      have HB := Lib.hid ((box_below w _).trans (hb1.mono (box_below w _).size))
      clear hb1 hh
      go_wp2_with fail
      go_quiet (fail)
      go_wp2
      exact bodyPost_ret (res59 _ _ _ _ _ rfl rfl rfl) rfl ⟨congrArg Ending.returned HR.out.symm, below_dn HB.out _⟩
  · have HX := Lib.hid (show rcR ⟨true, one, lo, hi, st⟩ = .tuple #[.int .i64 one, .int .i64 one, .int .i64 1] by rfl)
    clear h
    unfold SB.v
    go_enter Try.func59, Try.ntmps59
    go_wp2_with fail
    go_quiet (fail)
    go_wp2
    exact bodyPost_ret (res59 _ _ _ _ _ rfl rfl rfl) rfl ⟨congrArg Ending.returned HX.out.symm, below_dn (box_below _ _) _⟩

set_option maxHeartbeats 1000000 in
theorem wrongSub_c (s : SB) (w : World) : Calls Try.prog 57 #[s.v] w fun e w' => e = .returned (.bool (!okS s)) ∧ Below w.heap.size w w' := by
  obtain ⟨is, one, lo, hi, st⟩ := s
  cases is
  · have HC := Lib.hid fun w => isTriple_c lo hi st w
    have HX := Lib.hid (show okS ⟨false, one, lo, hi, st⟩ = triB lo hi st by unfold okS; simp)
    rw [HX.out]
    generalize triB lo hi st = t at *
    unfold SB.v
    go_enter Try.func57, Try.ntmps57
    go_wp2_with fail
    refine (HC.out _).mono ?_
    rintro e w1 ⟨rfl, hb1⟩
    have HB := Lib.hid ((box_below w _).trans (hb1.mono (box_below w _).size))
    clear hb1
    go_wp2
    go_ret
    exact ⟨rfl, HB.out⟩
  · unfold SB.v
    go_enter Try.func57, Try.ntmps57
    go_wp2
    go_ret
    exact ⟨rfl, box_below _ _⟩
/-- A slice that reads as a list of subscripts. -/
def RS (w : World) (v : Value) (l : List SB) : Prop :=
  ∃ A cap, v = .slice A l.length cap ∧ l.length ≤ 9223372036854775807 ∧ (∀ s ∈ l, Fit s.one ∧ Fit s.lo ∧ Fit s.hi ∧ Fit s.st) ∧
    (0 < l.length → ∃ b o : Nat, A = some ⟨b, o, none⟩ ∧ ∀ (k : Nat) (s : SB), l[k]? = some s → w.cell? ⟨b, o + k * 5, none⟩ = some (.bool s.is) ∧ w.cell? ⟨b, o + k * 5 + 1, none⟩ = some (.int .i64 s.one) ∧
      w.cell? ⟨b, o + k * 5 + 2, none⟩ = some (.int .i64 s.lo) ∧ w.cell? ⟨b, o + k * 5 + 3, none⟩ = some (.int .i64 s.hi) ∧ w.cell? ⟨b, o + k * 5 + 4, none⟩ = some (.int .i64 s.st))
theorem RS.keep {w w' : World} {v : Value} {l : List SB} (h : RS w v l) (hb : Below w.heap.size w w') : RS w' v l := by
  obtain ⟨A, cap, rfl, hm, hf, hc⟩ := h
  exact ⟨A, cap, rfl, hm, hf, fun h0 => by
    obtain ⟨b, o, rfl, h1⟩ := hc h0
    exact ⟨b, o, rfl, fun k s hs => by
      obtain ⟨a, b, c, d, e⟩ := h1 k s hs
      exact ⟨ck hb a, ck hb b, ck hb c, ck hb d, ck hb e⟩⟩⟩
theorem RS.at_ {w : World} {v : Value} {l : List SB} {k : Nat} (h : RS w v l) (hk : k < l.length) :
    ∃ (b o cap : Nat) (s : SB), v = .slice (some ⟨b, o, none⟩) l.length cap ∧ l[k]? = some s ∧ (Fit s.one ∧ Fit s.lo ∧ Fit s.hi ∧ Fit s.st) ∧
      w.cell? ⟨b, o + k * 5, none⟩ = some (.bool s.is) ∧ w.cell? ⟨b, o + k * 5 + 1, none⟩ = some (.int .i64 s.one) ∧
      w.cell? ⟨b, o + k * 5 + 2, none⟩ = some (.int .i64 s.lo) ∧ w.cell? ⟨b, o + k * 5 + 3, none⟩ = some (.int .i64 s.hi) ∧ w.cell? ⟨b, o + k * 5 + 4, none⟩ = some (.int .i64 s.st) := by
  obtain ⟨A, cap, rfl, hm, hf, hc⟩ := h
  obtain ⟨b, o, rfl, hr⟩ := hc (by omega)
  have hx : l[k]? = some l[k] := List.getElem?_eq_getElem hk
  exact ⟨b, o, cap, l[k], rfl, hx, hf _ (List.getElem_mem hk), hr _ _ hx⟩
theorem eg57 : ∀ args w, (callFunc 57 args).run Try.prog w = .ok (.enter 57 args) w := enters_of Try.func57 (by kernel_rfl) rfl
/-- The first index at which a list of subscripts has one that is none. -/
def badAt (l : List SB) (e : Ending) : Prop := (∃ k : Nat, e = .returned (.int .i64 (k : Int)) ∧ l.all okS = false) ∨ (e = .returned (.int .i64 (-1)) ∧ l.all okS = true)
set_option maxRecDepth 100000 in
set_option maxHeartbeats 2000000 in
theorem indexSub_c (v : Value) (l : List SB) (w : World) (h : RS w v l) : Calls Try.prog 68 #[v, .func (.func 57) #[] #[]] w fun e w' => badAt l e ∧ Below w.heap.size w w' := by
  have HR := Lib.hid h
  obtain ⟨A, cap, rfl, hm, -, -⟩ := h
  have eg := eg57
  go_enter Try.func68, Try.ntmps68
  go_wp2_with fail
  go_loopw [8] (fun x wr => ∃ k : Nat, k ≤ l.length ∧ x = .int .i64 (k : Int) ∧ (l.take k).all okS = true ∧ Below w.heap.size w wr) (fun x _ => l.length - (intOf x).toNat)
  case atStart => exact ⟨0, by omega, rfl, rfl, Below.refl _ _⟩
  case round =>
    obtain ⟨k, hk, rfl, hp, hB⟩ := hrel
    have HB := Lib.hid hB; have HP := Lib.hid hp
    clear hB hp
    by_cases hlt : k < l.length
    · obtain ⟨b, o, c', s, e1, hx, hfi, c0, c1, c2, c3, c4⟩ := (HR.out.keep HB.out).at_ hlt
      obtain ⟨rfl, rfl⟩ : A = some ⟨b, o, none⟩ ∧ cap = c' := by simpa using e1
      have HX := Lib.hid hx
      have HC := Lib.hid (wrongSub_c s wr)
      have HT := Lib.hid (show (l.take (k + 1)).all okS = okS s by rw [List.take_add_one, HX.out, List.all_append, HP.out]; simp)
      clear e1 hx hfi
      rcases hpk : okS s with _ | _
      · rw [hpk] at HC HT
        have HF := Lib.hid (show l.all okS = false by
          rw [List.all_eq_false]; exact ⟨s, List.mem_of_getElem? HX.out, by rw [hpk]; decide⟩)
        clear hpk
        unfold SB.v at HC
        go_wp2_with fail
        refine HC.out.mono ?_
        rintro e w1 ⟨rfl, hb⟩
        have HB1 := Lib.hid (bt_ HB.out hb)
        clear hb
        go_wp2
        go_ret
        exact ⟨Or.inl ⟨k, rfl, HF.out⟩, HB1.out⟩
      · rw [hpk] at HC HT
        clear hpk
        unfold SB.v at HC
        go_wp2_with fail
        refine HC.out.mono ?_
        rintro e w1 ⟨rfl, hb⟩
        have HB1 := Lib.hid (bt_ HB.out hb)
        clear hb
        go_wp2
        go_roundw
        case rel => exact ⟨k + 1, by omega, by go_num, HT.out, HB1.out⟩
        case measure => simp [intOf]; omega
    · obtain rfl : k = l.length := by omega
      have HF := Lib.hid (show l.all okS = true by have := HP.out; rwa [List.take_length] at this)
      go_wp2
      go_ret
      exact ⟨Or.inr ⟨rfl, HF.out⟩, HB.out⟩
set_option maxHeartbeats 2000000 in
theorem anyWrong_c (v : Value) (l : List SB) (w : World) (h : RS w v l) : Calls Try.prog 58 #[v, .func (.func 57) #[] #[]] w fun e w' => e = .returned (.bool (!l.all okS)) ∧ Below w.heap.size w w' := by
  have HI := Lib.hid (indexSub_c v l w h)
  clear h
  go_enter Try.func58, Try.ntmps58
  go_wp2_with fail
  refine HI.out.mono ?_
  rintro e w1 ⟨(⟨k, rfl, ha⟩ | ⟨rfl, ha⟩), hb⟩
  · have HB := Lib.hid hb; have HA := Lib.hid ha
    clear ha hb
    go_wp2
    go_ret
    exact ⟨ret_b (by rw [HA.out]; rfl), HB.out⟩
  · have HB := Lib.hid hb; have HA := Lib.hid ha
    clear ha hb
    go_wp2
    go_ret
    exact ⟨ret_b (by rw [HA.out]; rfl), HB.out⟩
end Go.Proofs.Ytkgdnlknnjiglaa

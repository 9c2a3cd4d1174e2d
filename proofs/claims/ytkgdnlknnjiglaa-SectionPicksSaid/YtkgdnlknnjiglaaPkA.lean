/- Contracts of Twice of both sides. -/
import Derived.Test.YtkgdnlknnjiglaaShC
namespace Go.Proofs.Ytkgdnlknnjiglaa
open Go.RowKit

/-- A number comes twice. -/
def twB (l : List Int) : Bool := (List.range l.length).any fun k => decide (l.getD k 0 ∈ upS l k)
theorem eg62 : ∀ args w, (callFunc 62 args).run Try.prog w = .ok (.enter 62 args) w := enters_of Try.func62 (by kernel_rfl) rfl
/-- The closure that asks whether a number is in the set, and puts it there. -/
theorem again_c (x : Int) (hx : Fit x) (mb b n : Nat) (S : List Int) (w : World) (h : MS w b n S) (hn : n < 1000000) (hm : w.cell? ⟨mb, 0, none⟩ = some (.map (some b))) :
    Calls Try.prog 62 #[.int .i64 x, .pointer (some ⟨mb, 0, none⟩)] w fun e w' => e = .returned (.bool (decide (x ∈ S))) ∧ MS w' b (n + 1) (x :: S) ∧ w.grownBy w' (some b) := by
  have hl := ms_look h hx
  obtain ⟨w', hput, hms, hg⟩ := ms_put h hx hn
  have HM := Lib.hid hms; have HG := Lib.hid hg
  clear h hms hg
  go_enter Try.func62, Try.ntmps62
  go_wp2
  go_ret
  exact ⟨rfl, HM.out, HG.out⟩
set_option maxRecDepth 100000 in
set_option maxHeartbeats 2000000 in
theorem Twice_c (v : Value) (l : List Int) (w : World) (h : RI w v l) (hl : l.length ≤ 500000) : Calls Try.prog 33 #[v] w fun e w' => e = .returned (.bool (twB l)) ∧ Below w.heap.size w w' := by
  have HR := Lib.hid (h.keep (bt_ (box_below w (.map #[] 0)) (box_below _ (.cells #[.map (some w.heap.size)] 72))))
  have HB0 := Lib.hid (bt_ (box_below w (.map #[] 0)) (box_below _ (.cells #[.map (some w.heap.size)] 72)))
  have HM := Lib.hid (ms_alloc (ms_made w) (.cells #[.map (some w.heap.size)] 72))
  have hmb := Has.new (w.alloc (.map #[] 0)) [.map (some w.heap.size)] 72
  rw [World.size_alloc] at hmb
  have HMB := Lib.hid hmb
  have hmm := @run_makeMap Try.prog
  have HC := Lib.hid (contains_c (fun k => decide (l.getD k 0 ∈ upS l k)) 62 #[.pointer (some ⟨w.heap.size + 1, 0, none⟩)] v l ((w.alloc (.map #[] 0)).alloc (.cells #[.map (some w.heap.size)] 72))
    (fun k w' => k ≤ l.length ∧ MS w' w.heap.size k (upS l k) ∧ Has w' (w.heap.size + 1) [.map (some w.heap.size)] ∧ Below w.heap.size w w' ∧ w.heap.size < w'.heap.size) (fun k w' => Below w.heap.size w w') eg62
    (fun k w' hI => h.keep hI.2.2.2.1)
    ⟨Nat.zero_le _, HM.out, HMB.out, HB0.out, by simp; omega⟩
    (fun k x w1 hx hf hI => by
      obtain ⟨hk, hms, hmb, hb, hs⟩ := hI
      have hk2 := (List.getElem?_eq_some_iff.1 hx).1
      refine (again_c x hf (w.heap.size + 1) w.heap.size k _ w1 hms (by omega) (hmb 0 _ rfl).1).mono ?_
      rintro e w' ⟨rfl, hms', hg⟩
      rw [← upS_succ hx] at hms'
      have hb' := hb.grown hg (by omega) (fun j hj => by have : w.heap.size = j := by simpa using hj
                                                         omega)
      rw [List.getD_eq_getElem?_getD, hx]
      refine ⟨rfl, ?_⟩
      split
      · exact hb'
      · exact ⟨hk2, hms', hmb.grown hg (fun j hj => by have : w.heap.size = j := by simpa using hj
                                                       omega), hb', by have := hg.size; omega⟩))
  clear h hmb
  go_enter Try.func33, Try.ntmps33
  go_wp2_with fail
  refine HC.out.mono ?_
  rintro e w' ⟨rfl, hJ⟩
  have HJ := Lib.hid (show Below w.heap.size w w' by rcases hJ with ⟨_, _, _, h⟩ | ⟨_, h⟩; · exact h
                                                     · exact h.2.2.2.1)
  clear hJ
  go_wp2
  go_ret
  exact ⟨rfl, HJ.out⟩
set_option maxRecDepth 100000 in
set_option maxHeartbeats 2000000 in
theorem rTwice_c (v : Value) (l : List Int) (w : World) (h : RI w v l) (hl : l.length ≤ 500000) : Calls Try.prog 34 #[v] w fun e w' => e = .returned (.bool (twB l)) ∧ Below w.heap.size w w' := by
  have HR := Lib.hid h
  have HM := Lib.hid (ms_made w)
  have hmm := @run_makeMap Try.prog
  obtain ⟨A, c, rfl, hml, -, -⟩ := h
  go_enter Try.func34, Try.ntmps34
  go_wp2_with fail
  go_loopw [4] (fun x wr => ∃ k : Nat, k ≤ l.length ∧ x = .int .i64 (k : Int) ∧ (∀ j, j < k → decide (l.getD j 0 ∈ upS l j) = false) ∧ MS wr w.heap.size k (upS l k) ∧ Below w.heap.size w wr ∧ w.heap.size < wr.heap.size) (fun x _ => l.length - (intOf x).toNat)
  case atStart => exact ⟨0, Nat.zero_le _, rfl, fun j hj => by omega, HM.out, box_below _ _, by simp⟩
  case round =>
    obtain ⟨k, hk, rfl, hno, hms, hB, hsz⟩ := hrel
    have HNO := Lib.hid hno; have HBB := Lib.hid hB
    by_cases hlt : k < l.length
    · obtain ⟨b3, o3, c3, x, e3, hx, m3⟩ := (HR.out.keep hB).at_ hlt
      obtain ⟨rfl, rfl⟩ : A = some ⟨b3, o3, none⟩ ∧ c = c3 := by simpa using e3
      have hfx := HR.out.fit x (List.mem_of_getElem? hx)
      have hlook := ms_look hms hfx
      have HG := Lib.hid (show l.getD k 0 = x by rw [List.getD_eq_getElem?_getD, hx]; rfl)
      rcases hin : decide (x ∈ upS l k) with _ | _
      · rw [hin] at hlook
        obtain ⟨w5, hput, hms5, hg5⟩ := ms_put hms hfx (by omega)
        rw [← upS_succ hx] at hms5
        have HM5 := Lib.hid hms5
        have HB5 := Lib.hid (hB.grown hg5 (by omega) (fun j hj => by have : w.heap.size = j := by simpa using hj
                                                                     omega))
        have hs5 : w.heap.size < w5.heap.size := by have := hg5.size; omega
        have HIN := Lib.hid hin
        clear e3 hx hfx hms hms5 hg5 hB hno hin
        go_wp2
        go_roundw
        case rel => exact ⟨k + 1, by omega, by go_num, fun j hj => by
                      rcases Nat.lt_or_ge j k with h | h
                      · exact HNO.out j h
                      · have : j = k := by omega
                        rw [this, HG.out]; exact HIN.out, HM5.out, HB5.out, hs5⟩
        case measure => simp [intOf]; omega
      · rw [hin] at hlook
        have HF := Lib.hid (show twB l = true from any_t hlt (by rw [HG.out]; exact hin))
        clear e3 hx hfx hms hB hno hin
        go_wp2
        go_ret
        exact ⟨ret_b HF.out.symm, HBB.out⟩
    · obtain rfl : k = l.length := by omega
      have HF := Lib.hid (show twB l = false from any_f hno)
      clear hms hB hno
      go_wp2
      go_ret
      exact ⟨ret_b HF.out.symm, HBB.out⟩
end Go.Proofs.Ytkgdnlknnjiglaa

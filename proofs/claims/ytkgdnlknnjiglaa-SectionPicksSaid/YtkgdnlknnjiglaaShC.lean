/- Contract of the document's Share. -/
import Derived.Test.YtkgdnlknnjiglaaShB
namespace Go.Proofs.Ytkgdnlknnjiglaa
open Go.RowKit

theorem any_take_succ {p : Int → Bool} {l : List Int} {k : Nat} {x : Int} (h : l[k]? = some x) (ha : (l.take k).any p = false) : (l.take (k + 1)).any p = p x := by
  rw [List.take_add_one, h, List.any_append, ha]; simp
/-- The head of the loop that fills the set. -/
def NRel (l : List Int) (b : Nat) (W : World) (x : Value) (wr : World) : Prop :=
  ∃ k : Nat, k ≤ l.length ∧ x = .int .i64 (k : Int) ∧ MS wr b k (upS l k) ∧ KB W wr (fun i => i = b)
set_option maxRecDepth 100000 in
set_option maxHeartbeats 4000000 in
theorem rShare_c (v1 v2 : Value) (a b : DS) (w : World) (h1 : RD w v1 a) (h2 : RD w v2 b) : Calls Try.prog 40 #[v1, v2] w fun e w' => e = .returned (shR a b) ∧ Below w.heap.size w w' := by
  have h10 := h1; have h20 := h2
  obtain ⟨ve1, vt1, rfl, -, -, -⟩ := h1
  obtain ⟨ve2, vt2, rfl, -, -, -⟩ := h2
  obtain ⟨r, hr⟩ : ∃ r, r = shR a b := ⟨_, rfl⟩
  have HR := Lib.hid hr
  rw [← hr]
  have HB := Lib.hid (bt_ (box_below w (.cells #[.int .i64 a.b, ve1, vt1] 31)) (box_below _ (.cells #[.int .i64 b.b, ve2, vt2] 31)))
  have HX1 := Lib.hid ((Has.new w [.int .i64 a.b, ve1, vt1] 31).alloc (.cells #[.int .i64 b.b, ve2, vt2] 31))
  have HX2 := Lib.hid (Has.new (w.alloc (.cells #[.int .i64 a.b, ve1, vt1] 31)) [.int .i64 b.b, ve2, vt2] 31)
  rw [World.size_alloc] at HX2
  have HR1 := Lib.hid (h10.keep HB.out); have HR2 := Lib.hid (h20.keep HB.out)
  have HV1 := Lib.hid (rValid_c _ a _ HR1.out)
  clear h10 h20 hr
  rcases hv1 : vldB a with _ | _
  · rw [hv1] at HV1
    have HN := Lib.hid (HR.out.trans (sh_no (by unfold svB; rw [hv1]; rfl)))
    clear hv1
    go_enter Try.func40, Try.ntmps40
    go_wp2_with fail
    refine HV1.out.mono ?_
    rintro e w1 ⟨rfl, hb⟩
    have HB1 := Lib.hid (bt_ HB.out hb)
    clear hb
    go_wp2
    go_ret2
    exact ⟨congrArg Ending.returned HN.out.symm, HB1.out⟩
  rw [hv1] at HV1
  rcases hv2 : vldB b with _ | _
  · have HN := Lib.hid (HR.out.trans (sh_no (by unfold svB; rw [hv1, hv2]; rfl)))
    have HVV := Lib.hid hv2
    clear hv1 hv2
    go_enter Try.func40, Try.ntmps40
    go_wp2_with fail
    refine HV1.out.mono ?_
    rintro e w1 ⟨rfl, hb⟩
    have HB1 := Lib.hid (bt_ HB.out hb)
    obtain ⟨y1, y2, y3⟩ := (HX2.out.keep hb).c3
    have HV2 := Lib.hid (rValid_c _ b _ (HR2.out.keep hb))
    rw [HVV.out] at HV2
    clear hb
    go_wp2_with fail
    refine HV2.out.mono ?_
    rintro e w2 ⟨rfl, hb⟩
    have HB2 := Lib.hid (bt_ HB1.out hb)
    clear hb
    go_wp2
    go_ret2
    exact ⟨congrArg Ending.returned HN.out.symm, HB2.out⟩
  have HN := Lib.hid (HR.out.trans (sh_yes (by unfold svB; rw [hv1, hv2]; rfl)))
  have HVV1 := Lib.hid hv1; have HVV := Lib.hid hv2
  clear hv1 hv2
  obtain ⟨la, hla⟩ : ∃ la, la = plcW a := ⟨_, rfl⟩
  obtain ⟨lb, hlb⟩ : ∃ lb, lb = plcW b := ⟨_, rfl⟩
  have hl4 : la.length ≤ 4000 := by rw [hla]; exact plcW_le (vld_ok HVV1.out)
  have HLA := Lib.hid hla; have HLB := Lib.hid hlb
  rw [← hla, ← hlb] at HN
  clear hla hlb
  go_enter Try.func40, Try.ntmps40
  go_wp2_with fail
  refine HV1.out.mono ?_
  rintro e w1 ⟨rfl, hb⟩
  have HB1 := Lib.hid (bt_ HB.out hb)
  obtain ⟨y1, y2, y3⟩ := (HX2.out.keep hb).c3
  have HV2 := Lib.hid (rValid_c _ b _ (HR2.out.keep hb))
  rw [HVV.out] at HV2
  have HX1a := Lib.hid (HX1.out.keep hb); have HX2a := Lib.hid (HX2.out.keep hb)
  have HR1a := Lib.hid (HR1.out.keep hb); have HR2a := Lib.hid (HR2.out.keep hb)
  clear hb
  go_wp2_with fail
  refine HV2.out.mono ?_
  rintro e w2 ⟨rfl, hb⟩
  have HB2 := Lib.hid (bt_ HB1.out hb)
  obtain ⟨x1, x2, x3⟩ := (HX1a.out.keep hb).c3
  have HX2b := Lib.hid (HX2a.out.keep hb); have HR2b := Lib.hid (HR2a.out.keep hb)
  have HRa := Lib.hid (HR1a.out.keep hb)
  have HOK1 := Lib.hid (vld_ok HVV1.out); have HOK2 := Lib.hid (vld_ok HVV.out)
  have HP1 := Lib.hid (rplaces_c _ a _ (HRa.out.keep (box_below w2 (.map #[] 0))) HOK1.out)
  rw [← HLA.out] at HP1
  have hmm := @run_makeMap Try.prog
  obtain ⟨x4, x5, x6⟩ := ((HX1a.out.keep hb).alloc (.map #[] 0)).c3
  clear hb y1 y2 y3
  go_wp2_with fail
  refine HP1.out.mono ?_
  rintro e w3 ⟨va, rfl, hra, hb⟩
  have HB3 := Lib.hid (show Below w.heap.size w w3 from bt_ (HB2.out.alloc HB2.out.size (.map #[] 0)) hb)
  have HW3 := Lib.hid (show Below w2.heap.size w2 w3 from bt_ (box_below w2 (.map #[] 0)) hb)
  have HM3 := Lib.hid (ms_keep (ms_made w2) hb)
  have hs3 : w2.heap.size < w3.heap.size := by have := hb.size; simp at this; omega
  have HRA := Lib.hid hra
  obtain ⟨Aa, ca, rfl⟩ := hra.ri.slice
  clear hb hra x1 x2 x3
  go_wp2_with fail
  go_loopw [8] (NRel la w2.heap.size w3) (fun x _ => la.length - (intOf x).toNat)
  case atStart => exact ⟨0, Nat.zero_le _, rfl, HM3.out, KB.refl _ _⟩
  case round =>
    obtain ⟨k, hk, rfl, hms, hK⟩ := hrel
    have hB : Below w2.heap.size w2 wr := hK.below HW3.out (fun i hi => by omega) (by omega)
    by_cases hlt : k < la.length
    · obtain ⟨b3, o3, c3, x, e3, hx, m3⟩ := (HRA.out.oi.1.kb hK (fun g hg e => by have := (HRA.out.lt g hg).1; simp at this; omega)).ri.at_ hlt
      obtain ⟨rfl, rfl⟩ : Aa = some ⟨b3, o3, none⟩ ∧ ca = c3 := by simpa using e3
      have hfx := HRA.out.ri.fit x (List.mem_of_getElem? hx)
      obtain ⟨w5, hput, hms5, hg5⟩ := ms_put hms hfx (by omega)
      rw [← upS_succ hx] at hms5
      have HM5 := Lib.hid hms5
      have HK5 := Lib.hid (hK.trans (KB.of_grown hg5 (fun k hk => by simpa using hk)))
      clear e3 hx hfx hms hms5 hg5 hB hK
      go_wp2
      go_roundw
      case rel => exact ⟨k + 1, by omega, by go_num, HM5.out, HK5.out⟩
      case measure => simp [intOf]; omega
    · obtain rfl : k = la.length := by omega
      obtain ⟨y1, y2, y3⟩ := (HX2b.out.keep hB).c3
      have HP2 := Lib.hid (rplaces_c _ b _ (HR2b.out.keep hB) HOK2.out)
      rw [← HLB.out] at HP2
      have HMS := Lib.hid hms
      have HB4 := Lib.hid (bt_ HB2.out hB)
      clear hms hB hK
      go_wp2_with fail
      refine HP2.out.mono ?_
      rintro e w5 ⟨vb, rfl, hrb, hb⟩
      have HB5 := Lib.hid (bt_ HB4.out hb)
      have HM5 := Lib.hid (ms_keep HMS.out hb)
      have HRB := Lib.hid hrb.ri
      have hl5 := hrb.2.2
      obtain ⟨Ab, cb, rfl⟩ := hrb.ri.slice
      clear hb hrb y1 y2 y3
      go_wp2_with fail
      go_loop [9] (fun x => ∃ k : Nat, k ≤ lb.length ∧ x = .int .i64 (k : Int) ∧ (lb.take k).any (fun x => decide (x ∈ upS la la.length)) = false) (fun x => lb.length - (intOf x).toNat)
      case atStart => exact ⟨0, Nat.zero_le _, rfl, rfl⟩
      case round =>
        obtain ⟨k, hk, rfl, ha⟩ := hrel
        have HAF := Lib.hid ha
        clear ha
        by_cases hlt2 : k < lb.length
        · obtain ⟨b3, o3, c3, x, e3, hx, m3⟩ := HRB.out.at_ hlt2
          obtain ⟨rfl, rfl⟩ : Ab = some ⟨b3, o3, none⟩ ∧ cb = c3 := by simpa using e3
          have hlook := ms_look HM5.out (HRB.out.fit x (List.mem_of_getElem? hx))
          have HXX := Lib.hid hx
          clear e3 hx
          rcases hin : decide (x ∈ upS la la.length) with _ | _
          · rw [hin] at hlook
            have HN2 := Lib.hid ((any_take_succ HXX.out HAF.out).trans hin)
            clear hin
            go_wp2
            go_round
            case rel => exact ⟨k + 1, by omega, by go_num, HN2.out⟩
            case measure => simp [intOf]; omega
          · rw [hin] at hlook
            have HF := Lib.hid (show shB la lb = true by
              unfold shB
              rw [List.any_eq_true]
              refine ⟨x, List.mem_of_getElem? HXX.out, ?_⟩
              simp only [mem_upS] at hin
              exact hin)
            clear hin
            go_wp2
            go_ret2
            exact ⟨congrArg Ending.returned (by rw [HN.out, HF.out]; rfl), HB5.out⟩
        · obtain rfl : k = lb.length := by omega
          have HF := Lib.hid (show shB la lb = false by
            have h := HAF.out
            rw [List.take_length] at h
            unfold shB
            simp only [mem_upS] at h
            exact h)
          go_wp2
          go_ret2
          exact ⟨congrArg Ending.returned (by rw [HN.out, HF.out]; rfl), HB5.out⟩
end Go.Proofs.Ytkgdnlknnjiglaa

/- Contracts of Share of both sides. -/
import Derived.Test.YtkgdnlknnjiglaaSecZB
import Derived.Test.YtkgdnlknnjiglaaShA
import Derived.Maps.OwnOps
namespace Go.Proofs.Ytkgdnlknnjiglaa
open Go.RowKit

/-- Two lists have a number in common. -/
def shB (a b : List Int) : Bool := b.any fun x => decide (x ∈ a)
theorem shB_comm (a b : List Int) : shB a b = shB b a := by
  unfold shB
  rw [Bool.eq_iff_iff, List.any_eq_true, List.any_eq_true]
  simp only [decide_eq_true_eq]
  exact ⟨fun ⟨x, h1, h2⟩ => ⟨x, h2, h1⟩, fun ⟨x, h1, h2⟩ => ⟨x, h2, h1⟩⟩
theorem shB_self (a : List Int) : shB a a = decide (0 < a.length) := by
  unfold shB
  rw [Bool.eq_iff_iff, List.any_eq_true]
  simp only [decide_eq_true_eq]
  exact ⟨fun ⟨x, h, _⟩ => List.length_pos_of_mem h, fun h => ⟨a[0], List.getElem_mem h, List.getElem_mem h⟩⟩
def svB (a b : DS) : Bool := vldB a && vldB b
def shR (a b : DS) : Value := .tuple #[.bool (svB a b && shB (plcW a) (plcW b)), .int .i64 (if svB a b = true then 0 else 2)]
theorem sh_no {a b : DS} (h : svB a b = false) : shR a b = .tuple #[.bool false, .int .i64 2] := by unfold shR; rw [h]; rfl
theorem sh_yes {a b : DS} (h : svB a b = true) : shR a b = .tuple #[.bool (shB (plcW a) (plcW b)), .int .i64 0] := by unfold shR; rw [h]; rfl
/-- The numbers of a list, as far as k, the last one first. -/
def upS (l : List Int) (k : Nat) : List Int := (l.take k).reverse
theorem upS_succ {l : List Int} {k : Nat} {x : Int} (h : l[k]? = some x) : upS l (k + 1) = x :: upS l k := by
  unfold upS; rw [List.take_add_one, h, List.reverse_append]; rfl
theorem mem_upS {l : List Int} {x : Int} : (x ∈ upS l l.length) = (x ∈ l) := by unfold upS; rw [List.take_length, List.mem_reverse]
theorem eg66 : ∀ args w, (callFunc 66 args).run Try.prog w = .ok (.enter 66 args) w := enters_of Try.func66 (by kernel_rfl) rfl
/-- The closure that asks whether a number is in the set. -/
theorem in_c (x : Int) (hx : Fit x) (mb b n : Nat) (S : List Int) (w : World) (h : MS w b n S) (hm : w.cell? ⟨mb, 0, none⟩ = some (.map (some b))) :
    Calls Try.prog 66 #[.int .i64 x, .pointer (some ⟨mb, 0, none⟩)] w fun e w' => e = .returned (.bool (decide (x ∈ S))) ∧ w = w' := by
  have hl := ms_look h hx
  clear h
  go_enter Try.func66, Try.ntmps66
  go_wp2
  go_ret
  exact ⟨rfl, rfl⟩
theorem any_in (la lb : List Int) : (List.range lb.length).any (fun k => decide (lb.getD k 0 ∈ upS la la.length)) = shB la lb := by
  rw [any_range (q := fun x => decide (x ∈ upS la la.length))]
  unfold shB
  simp only [mem_upS]
/-- slices.ContainsFunc with the closure. -/
theorem anyIn_c (v : Value) (la lb : List Int) (mb b n : Nat) (w : World) (hr : RI w v lb) (h : MS w b n (upS la la.length)) (hm : w.cell? ⟨mb, 0, none⟩ = some (.map (some b))) :
    Calls Try.prog 47 #[v, .func (.func 66) #[] #[.pointer (some ⟨mb, 0, none⟩)]] w fun e w' => e = .returned (.bool (shB la lb)) ∧ w = w' := by
  refine (contains_c (fun k => decide (lb.getD k 0 ∈ upS la la.length)) 66 #[.pointer (some ⟨mb, 0, none⟩)] v lb w (fun _ w' => w = w') (fun _ w' => w = w') eg66 (fun _ w' e => by subst e; exact hr) rfl (fun k x w1 hx hf e => ?_)).mono ?_
  · subst e
    refine (in_c x hf mb b n _ w h hm).mono ?_
    rintro e w' ⟨rfl, rfl⟩
    rw [List.getD_eq_getElem?_getD, hx]
    refine ⟨rfl, ?_⟩
    split <;> rfl
  · rintro e w' ⟨rfl, h⟩
    refine ⟨ret_b (any_in la lb), ?_⟩
    rcases h with ⟨_, _, _, h⟩ | ⟨_, h⟩ <;> exact h
/-- The head of the loop that fills the set. -/
def MRel (l : List Int) (b mb : Nat) (W : World) (x : Value) (wr : World) : Prop :=
  ∃ k : Nat, k ≤ l.length ∧ x = .int .i64 (k : Int) ∧ MS wr b k (upS l k) ∧ Has wr mb [.map (some b)] ∧ Below b W wr ∧ mb < wr.heap.size
set_option maxRecDepth 100000 in
set_option maxHeartbeats 4000000 in
theorem Share_c (v1 v2 : Value) (a b : DS) (w : World) (h1 : RD w v1 a) (h2 : RD w v2 b) : Calls Try.prog 39 #[v1, v2] w fun e w' => e = .returned (shR a b) ∧ Below w.heap.size w w' := by
  have h10 := h1; have h20 := h2
  obtain ⟨ve1, vt1, rfl, -, -, -⟩ := h1
  obtain ⟨ve2, vt2, rfl, -, -, -⟩ := h2
  obtain ⟨r, hr⟩ : ∃ r, r = shR a b := ⟨_, rfl⟩
  have HR := Lib.hid hr
  rw [← hr]
  have HB := Lib.hid (bt_ (box_below w (.cells #[.int .i64 a.b, ve1, vt1] 31)) (box_below _ (.cells #[.int .i64 b.b, ve2, vt2] 31)))
  have HX1 := Lib.hid ((Has.new w [.int .i64 a.b, ve1, vt1] 31).alloc (.cells #[.int .i64 b.b, ve2, vt2] 31))
  have HX2 := Lib.hid (Has.new (w.alloc (.cells #[.int .i64 a.b, ve1, vt1] 31)) [.int .i64 b.b, ve2, vt2] 31)
  rw [World.size_alloc] at HX2
  have HR1 := Lib.hid (h10.keep HB.out); have HR2 := Lib.hid (h20.keep HB.out)
  have HV1 := Lib.hid (Valid_c _ a _ HR1.out)
  clear h10 h20 hr
  rcases hv1 : vldB a with _ | _
  · rw [hv1] at HV1
    have HN := Lib.hid (HR.out.trans (sh_no (by unfold svB; rw [hv1]; rfl)))
    clear hv1
    go_enter Try.func39, Try.ntmps39
    go_wp2_with fail
    refine HV1.out.mono ?_
    rintro e w1 ⟨rfl, hb⟩
    have HB1 := Lib.hid (bt_ HB.out hb.below)
    clear hb
    go_wp2
    go_ret2
    exact ⟨congrArg Ending.returned HN.out.symm, HB1.out⟩
  rw [hv1] at HV1
  rcases hv2 : vldB b with _ | _
  · have HN := Lib.hid (HR.out.trans (sh_no (by unfold svB; rw [hv1, hv2]; rfl)))
    have HVV := Lib.hid hv2
    clear hv1 hv2
    go_enter Try.func39, Try.ntmps39
    go_wp2_with fail
    refine HV1.out.mono ?_
    rintro e w1 ⟨rfl, hb⟩
    have HB1 := Lib.hid (bt_ HB.out hb.below)
    obtain ⟨y1, y2, y3⟩ := (HX2.out.keep hb.below).c3
    have HV2 := Lib.hid (Valid_c _ b _ (HR2.out.keep hb.below))
    rw [HVV.out] at HV2
    clear hb
    go_wp2_with fail
    refine HV2.out.mono ?_
    rintro e w2 ⟨rfl, hb⟩
    have HB2 := Lib.hid (bt_ HB1.out hb.below)
    clear hb
    go_wp2
    go_ret2
    exact ⟨congrArg Ending.returned HN.out.symm, HB2.out⟩
  have HN := Lib.hid (HR.out.trans (sh_yes (by unfold svB; rw [hv1, hv2]; rfl)))
  have HVV1 := Lib.hid hv1; have HVV := Lib.hid hv2
  clear hv1 hv2
  obtain ⟨la, hla⟩ : ∃ la, la = plcW a := ⟨_, rfl⟩
  obtain ⟨lb, hlb⟩ : ∃ lb, lb = plcW b := ⟨_, rfl⟩
  have hl4 : la.length ≤ 4000 := by rw [hla]; exact plcW_le (vld_ok HVV1.out)
  have HLA := Lib.hid hla; have HLB := Lib.hid hlb
  rw [← hla, ← hlb] at HN
  clear hla hlb
  go_enter Try.func39, Try.ntmps39
  go_wp2_with fail
  refine HV1.out.mono ?_
  rintro e w1 ⟨rfl, hb⟩
  have HB1 := Lib.hid (bt_ HB.out hb.below)
  obtain ⟨y1, y2, y3⟩ := (HX2.out.keep hb.below).c3
  have HV2 := Lib.hid (Valid_c _ b _ (HR2.out.keep hb.below))
  rw [HVV.out] at HV2
  have HX1a := Lib.hid (HX1.out.keep hb.below); have HX2a := Lib.hid (HX2.out.keep hb.below)
  have HR1a := Lib.hid (HR1.out.keep hb.below); have HR2a := Lib.hid (HR2.out.keep hb.below)
  clear hb
  go_wp2_with fail
  refine HV2.out.mono ?_
  rintro e w2 ⟨rfl, hb⟩
  have HB2 := Lib.hid (bt_ HB1.out hb.below)
  obtain ⟨x1, x2, x3⟩ := (HX1a.out.keep hb.below).c3
  have HX2b := Lib.hid (HX2a.out.keep hb.below); have HR2b := Lib.hid (HR2a.out.keep hb.below)
  have HP1 := Lib.hid (Places_c _ a _ (HR1a.out.keep hb.below))
  rw [show plL a = la by unfold plL; rw [if_pos HVV1.out, HLA.out], show plE a = 0 by unfold plE; rw [if_pos HVV1.out]] at HP1
  clear hb y1 y2 y3
  go_wp2_with fail
  refine HP1.out.mono ?_
  rintro e w3 ⟨va, rfl, hra, hb⟩
  have HB3 := Lib.hid (bt_ HB2.out hb)
  obtain ⟨y1, y2, y3⟩ := (HX2b.out.keep hb).c3
  have HP2 := Lib.hid (Places_c _ b _ (HR2b.out.keep hb))
  rw [show plL b = lb by unfold plL; rw [if_pos HVV.out, HLB.out], show plE b = 0 by unfold plE; rw [if_pos HVV.out]] at HP2
  have HRA := Lib.hid hra
  obtain ⟨Aa, ca, rfl⟩ := hra.slice
  clear hb hra x1 x2 x3
  go_wp2_with fail
  refine HP2.out.mono ?_
  rintro e w4 ⟨vb, rfl, hrb, hb⟩
  have HB4 := Lib.hid (bt_ HB3.out hb)
  have HRA4 := Lib.hid (HRA.out.keep hb); have HRB4 := Lib.hid hrb
  obtain ⟨Ab, cb, rfl⟩ := hrb.slice
  have mk := run_makeMapN la.length
  clear hb hrb y1 y2 y3
  go_wp2_with fail
  go_loopw [36] (MRel la w4.heap.size (w4.heap.size + 1) w4) (fun x _ => la.length - (intOf x).toNat)
  case atStart =>
    refine ⟨0, Nat.zero_le _, rfl, ms_alloc (ms_made w4) _, ?_, bt_ (box_below w4 _) (box_below _ _), by simp⟩
    have := Has.new (w4.alloc (.map #[] 0)) [.map (some w4.heap.size)] 72
    rw [World.size_alloc] at this
    exact this
  case round =>
    obtain ⟨k, hk, rfl, hms, hmb, hB, hsz⟩ := hrel
    by_cases hlt : k < la.length
    · obtain ⟨b3, o3, c3, x, e3, hx, m3⟩ := (HRA4.out.keep hB).at_ hlt
      obtain ⟨rfl, rfl⟩ : Aa = some ⟨b3, o3, none⟩ ∧ ca = c3 := by simpa using e3
      have hfx := HRA4.out.fit x (List.mem_of_getElem? hx)
      obtain ⟨w5, hput, hms5, hg5⟩ := ms_put hms hfx (by omega)
      have hc := (hmb 0 _ rfl).1
      rw [← upS_succ hx] at hms5
      have HM5 := Lib.hid hms5
      have HMB := Lib.hid (hmb.grown hg5 (fun k hk => by have : w4.heap.size = k := by simpa using hk
                                                         omega))
      have HBB := Lib.hid (hB.grown hg5 (by omega) (fun k hk => by have : w4.heap.size = k := by simpa using hk
                                                                   omega))
      have hsz5 : w4.heap.size + 1 < w5.heap.size := by have := hg5.size; omega
      clear e3 hx hfx hms hms5 hg5 hmb hB
      go_wp2
      go_roundw
      case rel => exact ⟨k + 1, by omega, by go_num, HM5.out, HMB.out, HBB.out, hsz5⟩
      case measure => simp [intOf]; omega
    · obtain rfl : k = la.length := by omega
      have HA := Lib.hid (anyIn_c (.slice Ab lb.length cb) la lb (w4.heap.size + 1) w4.heap.size la.length wr (HRB4.out.keep hB) hms (hmb 0 _ rfl).1)
      have HBB := Lib.hid (bt_ HB4.out hB)
      clear hms hmb hB
      go_wp2_with fail
      refine HA.out.mono ?_
      rintro e w6 ⟨rfl, rfl⟩
      go_wp2
      go_ret2
      exact ⟨congrArg Ending.returned HN.out.symm, HBB.out⟩
end Go.Proofs.Ytkgdnlknnjiglaa

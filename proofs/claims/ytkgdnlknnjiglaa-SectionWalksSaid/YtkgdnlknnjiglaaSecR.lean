/- Contracts of At of both sides. -/
import Derived.Test.YtkgdnlknnjiglaaSecQ
namespace Go.Proofs.Ytkgdnlknnjiglaa
open Go.RowKit

theorem wrap64_eq (x : Int) : wrap64 x = w64 x := (IntWalk.i64_left x).symm
/-- The place of subscripts, with sums of 64 bits; none where one is out of its bounds. -/
def atGo : List Int → List Int → List Int → Int → Option Int
  | s :: S, e :: E, t :: T, a => if subB s e = true then atGo S E T (w64 (a + s * t)) else none
  | _, _, _, a => some a
theorem atGo_step {S E T : List Int} {a : Int} {k : Nat} {s e t : Int} (h1 : S[k]? = some s) (h2 : E[k]? = some e) (h3 : T[k]? = some t) :
    atGo (S.drop k) (E.drop k) (T.drop k) a = if subB s e = true then atGo (S.drop (k + 1)) (E.drop (k + 1)) (T.drop (k + 1)) (w64 (a + s * t)) else none := by
  obtain ⟨l1, e1⟩ := List.getElem?_eq_some_iff.1 h1
  obtain ⟨l2, e2⟩ := List.getElem?_eq_some_iff.1 h2
  obtain ⟨l3, e3⟩ := List.getElem?_eq_some_iff.1 h3
  rw [List.drop_eq_getElem_cons l1, List.drop_eq_getElem_cons l2, List.drop_eq_getElem_cons l3, e1, e2, e3]
  rfl
theorem atGo_end {S E T : List Int} {a : Int} {k : Nat} (h : S.length ≤ k) : atGo (S.drop k) (E.drop k) (T.drop k) a = some a := by
  rw [List.drop_of_length_le h]; rfl
def atO (d : DS) (S : List Int) : Option Int := atGo S d.ex d.st d.b
def atOk (d : DS) (S : List Int) : Bool := vldB d && decide (S.length = d.ex.length)
def atV (d : DS) (S : List Int) : Int := if atOk d S = true then (atO d S).getD 0 else 0
def atE (d : DS) (S : List Int) : Int := if atOk d S = true then (if (atO d S).isNone = true then 92 else 0) else 2
def atR (d : DS) (S : List Int) : Value := .tuple #[.int .i64 (atV d S), .int .i64 (atE d S)]
theorem at_no {d : DS} {S : List Int} (h : atOk d S = false) : atR d S = .tuple #[.int .i64 0, .int .i64 2] := by unfold atR atV atE; rw [h]; rfl
theorem at_bad {d : DS} {S : List Int} (h : atOk d S = true) (h2 : atO d S = none) : atR d S = .tuple #[.int .i64 0, .int .i64 92] := by unfold atR atV atE; rw [h, h2]; rfl
theorem at_yes {d : DS} {S : List Int} {a : Int} (h : atOk d S = true) (h2 : atO d S = some a) : atR d S = .tuple #[.int .i64 a, .int .i64 0] := by unfold atR atV atE; rw [h, h2]; rfl
theorem atO_start (d : DS) (S : List Int) : atGo (S.drop 0) (d.ex.drop 0) (d.st.drop 0) d.b = atO d S := by
  rw [List.drop_zero, List.drop_zero, List.drop_zero]; rfl

set_option maxRecDepth 100000 in
set_option maxHeartbeats 4000000 in
theorem At_c (v vs : Value) (d : DS) (S : List Int) (w : World) (h : RD w v d) (hS : RI w vs S) : Calls Try.prog 27 #[v, vs] w fun e w' => e = .returned (atR d S) ∧ Below w.heap.size w w' := by
  have h0 := h
  obtain ⟨ve, vt, rfl, he, ht, hfb⟩ := h
  obtain ⟨o1, z1⟩ : ∃ o : Obj, o = .cells #[.int .i64 d.b, ve, vt] 31 := ⟨_, rfl⟩
  have HB := Lib.hid (box_below w o1)
  have HD := Lib.hid (Has.new w [.int .i64 d.b, ve, vt] 31)
  have HV := Lib.hid (Valid_c _ d _ (h0.keep HB.out))
  have HE := Lib.hid (he.keep HB.out); have HT := Lib.hid (ht.keep HB.out); have HS := Lib.hid (hS.keep HB.out)
  rw [z1] at HB HV HE HT HS
  obtain ⟨E, ce, rfl⟩ := he.slice
  obtain ⟨T, ct, rfl⟩ := ht.slice
  obtain ⟨Z, cz, rfl⟩ := hS.slice
  have hme := he.len; have hmt := ht.len; have hmz := hS.len
  have HFB := Lib.hid hfb
  obtain ⟨r, hr⟩ : ∃ r, r = atR d S := ⟨_, rfl⟩
  have HR := Lib.hid hr
  rw [← hr]
  clear h0 z1 o1 he ht hS hr hfb
  by_cases hv : vldB d = true
  rotate_left
  · have hv' : vldB d = false := by simpa using hv
    rw [hv'] at HV
    have HX := Lib.hid (HR.out.trans (at_no (show atOk d S = false by unfold atOk; rw [hv']; rfl)))
    clear hv hv'
    go_enter Try.func27, Try.ntmps27
    go_wp2_with fail
    refine HV.out.mono ?_
    rintro e w1 ⟨rfl, hb⟩
    have HB1 := Lib.hid (bt_ HB.out hb.below)
    clear hb
    go_wp2
    go_ret2
    exact ⟨congrArg Ending.returned HX.out.symm, HB1.out⟩
  rw [hv] at HV
  by_cases hl : S.length = d.ex.length
  rotate_left
  · have f0 : ((S.length : Int) == (d.ex.length : Int)) = false := by simp; omega
    have f1 : ((S.length : Int) != (d.ex.length : Int)) = true := by simp; omega
    have HX := Lib.hid (HR.out.trans (at_no (show atOk d S = false by unfold atOk; rw [decide_eq_false hl]; simp)))
    clear hl hv
    go_enter Try.func27, Try.ntmps27
    go_wp2_with fail
    refine HV.out.mono ?_
    rintro e w1 ⟨rfl, hb⟩
    obtain ⟨g1, g2, g3⟩ := (HD.out.keep hb.below).c3
    have HB1 := Lib.hid (bt_ HB.out hb.below)
    clear hb
    go_wp2
    go_ret2
    exact ⟨congrArg Ending.returned HX.out.symm, HB1.out⟩
  have f0 : ((S.length : Int) == (d.ex.length : Int)) = true := by simp; omega
  have f1 : ((S.length : Int) != (d.ex.length : Int)) = false := by simp; omega
  have HOK := Lib.hid (show atOk d S = true by unfold atOk; rw [hv, decide_eq_true hl]; rfl)
  have HL := Lib.hid hl
  have HO := Lib.hid (vld_ok hv)
  clear hl hv
  go_enter Try.func27, Try.ntmps27
  go_wp2_with fail
  refine HV.out.mono ?_
  rintro e w1 ⟨rfl, hb⟩
  obtain ⟨g1, g2, g3⟩ := (HD.out.keep hb.below).c3
  have HB1 := Lib.hid (bt_ HB.out hb.below)
  have HE1 := Lib.hid (HE.out.keep hb.below); have HT1 := Lib.hid (HT.out.keep hb.below); have HS1 := Lib.hid (HS.out.keep hb.below)
  clear hb
  go_wp2_with fail
  go_loop [6, 24] (fun y x => ∃ (k : Nat) (a : Int), k ≤ S.length ∧ x = .int .i64 (k : Int) ∧ y = .int .i64 a ∧ atGo (S.drop k) (d.ex.drop k) (d.st.drop k) a = atO d S ∧ Fit a) (fun _ x => S.length - (intOf x).toNat)
  case atStart => exact ⟨0, d.b, Nat.zero_le _, rfl, rfl, atO_start d S, HFB.out⟩
  case round =>
    obtain ⟨k, a, hk, rfl, rfl, hgo, hfa⟩ := hrel
    have hk0 : (0 : Int) ≤ (k : Int) := by omega
    by_cases hlt : k < S.length
    · obtain ⟨b3, o3, c3, s, e3, hs, m3⟩ := HS1.out.at_ hlt
      obtain ⟨rfl, rfl⟩ : Z = some ⟨b3, o3, none⟩ ∧ cz = c3 := by simpa using e3
      obtain ⟨b4, o4, c4, ev, e4, hev, m4⟩ := HE1.out.at_ (k := k) (by have := HL.out; omega)
      obtain ⟨rfl, rfl⟩ : E = some ⟨b4, o4, none⟩ ∧ ce = c4 := by simpa using e4
      obtain ⟨b5, o5, c5, tv, e5, htv, m5⟩ := HT1.out.at_ (k := k) (by have := HL.out; have := HO.out.2.1; omega)
      obtain ⟨rfl, rfl⟩ : T = some ⟨b5, o5, none⟩ ∧ ct = c5 := by simpa using e5
      have hlE : k < d.ex.length := by have := HL.out; omega
      have hlT : k < d.st.length := by have := HL.out; have := HO.out.2.1; omega
      have hevb := (okE_iff.1 HO.out.1).2.1 ev (List.mem_of_getElem? hev)
      have htvb := near_iff.1 (List.all_eq_true.1 HO.out.2.2.1 tv (List.mem_of_getElem? htv))
      have HGO := Lib.hid (hgo.symm.trans (atGo_step hs hev htv))
      have HC := Lib.hid (fun w => isSub_c s ev w)
      clear e3 e4 e5 hs hev htv hgo
      rcases hsb : subB s ev with _ | _
      · rw [hsb] at HC
        have HX := Lib.hid (HR.out.trans (at_bad HOK.out (HGO.out.trans (by rw [hsb]; rfl))))
        clear hsb
        go_wp2_with fail
        refine (HC.out _).mono ?_
        rintro e w2 ⟨rfl, rfl⟩
        go_wp2
        go_ret2
        exact ⟨congrArg Ending.returned HX.out.symm, HB1.out⟩
      · rw [hsb] at HC
        have HG2 := Lib.hid (HGO.out.trans (by rw [if_pos hsb]))
        have hsb2 := sub_iff.1 hsb
        have him := mul_near (x := s) (y := tv) (by omega) (by omega) (by omega) (by omega)
        obtain ⟨s1, hs1⟩ : ∃ s1, s1 = w64 (a + s * tv) := ⟨_, rfl⟩
        rw [← hs1] at HG2
        have hw : wrap64 (a + s * tv) = s1 := (wrap64_eq _).trans hs1.symm
        have hfs : Fit s1 := by rw [hs1]; exact w64_fit _
        clear hsb hs1
        go_wp2_with fail
        refine (HC.out _).mono ?_
        rintro e w2 ⟨rfl, rfl⟩
        go_wp2
        go_round
        case rel => exact ⟨k + 1, _, by omega, by go_num, rfl, by rw [hw]; exact HG2.out.symm, by rw [hw]; exact hfs⟩
        case measure => simp [intOf]; omega
    · obtain rfl : k = S.length := by omega
      have HX := Lib.hid (HR.out.trans (at_yes HOK.out (show atO d S = some a by rw [← hgo]; exact atGo_end (Nat.le_refl _))))
      clear hgo
      go_wp2
      go_ret2
      exact ⟨congrArg Ending.returned HX.out.symm, HB1.out⟩
set_option maxRecDepth 100000 in
set_option maxHeartbeats 4000000 in
theorem rAt_c (v vs : Value) (d : DS) (S : List Int) (w : World) (h : RD w v d) (hS : RI w vs S) : Calls Try.prog 28 #[v, vs] w fun e w' => e = .returned (atR d S) ∧ Below w.heap.size w w' := by
  have h0 := h
  obtain ⟨ve, vt, rfl, he, ht, hfb⟩ := h
  obtain ⟨o1, z1⟩ : ∃ o : Obj, o = .cells #[.int .i64 d.b, ve, vt] 31 := ⟨_, rfl⟩
  have HB := Lib.hid (box_below w o1)
  have HD := Lib.hid (Has.new w [.int .i64 d.b, ve, vt] 31)
  have HV := Lib.hid (rValid_c _ d _ (h0.keep HB.out))
  have HE := Lib.hid (he.keep HB.out); have HT := Lib.hid (ht.keep HB.out); have HS := Lib.hid (hS.keep HB.out)
  rw [z1] at HB HV HE HT HS
  obtain ⟨E, ce, rfl⟩ := he.slice
  obtain ⟨T, ct, rfl⟩ := ht.slice
  obtain ⟨Z, cz, rfl⟩ := hS.slice
  have hme := he.len; have hmt := ht.len; have hmz := hS.len
  have HFB := Lib.hid hfb
  obtain ⟨r, hr⟩ : ∃ r, r = atR d S := ⟨_, rfl⟩
  have HR := Lib.hid hr
  rw [← hr]
  clear h0 z1 o1 he ht hS hr hfb
  by_cases hv : vldB d = true
  rotate_left
  · have hv' : vldB d = false := by simpa using hv
    rw [hv'] at HV
    have HX := Lib.hid (HR.out.trans (at_no (show atOk d S = false by unfold atOk; rw [hv']; rfl)))
    clear hv hv'
    go_enter Try.func28, Try.ntmps28
    go_wp2_with fail
    refine HV.out.mono ?_
    rintro e w1 ⟨rfl, hb⟩
    have HB1 := Lib.hid (bt_ HB.out hb)
    clear hb
    go_wp2
    go_ret2
    exact ⟨congrArg Ending.returned HX.out.symm, HB1.out⟩
  rw [hv] at HV
  by_cases hl : S.length = d.ex.length
  rotate_left
  · have f0 : ((S.length : Int) == (d.ex.length : Int)) = false := by simp; omega
    have f1 : ((S.length : Int) != (d.ex.length : Int)) = true := by simp; omega
    have HX := Lib.hid (HR.out.trans (at_no (show atOk d S = false by unfold atOk; rw [decide_eq_false hl]; simp)))
    clear hl hv
    go_enter Try.func28, Try.ntmps28
    go_wp2_with fail
    refine HV.out.mono ?_
    rintro e w1 ⟨rfl, hb⟩
    obtain ⟨g1, g2, g3⟩ := (HD.out.keep hb).c3
    have HB1 := Lib.hid (bt_ HB.out hb)
    clear hb
    go_wp2
    go_ret2
    exact ⟨congrArg Ending.returned HX.out.symm, HB1.out⟩
  have f0 : ((S.length : Int) == (d.ex.length : Int)) = true := by simp; omega
  have f1 : ((S.length : Int) != (d.ex.length : Int)) = false := by simp; omega
  have HOK := Lib.hid (show atOk d S = true by unfold atOk; rw [hv, decide_eq_true hl]; rfl)
  have HL := Lib.hid hl
  have HO := Lib.hid (vld_ok hv)
  clear hl hv
  go_enter Try.func28, Try.ntmps28
  go_wp2_with fail
  refine HV.out.mono ?_
  rintro e w1 ⟨rfl, hb⟩
  obtain ⟨g1, g2, g3⟩ := (HD.out.keep hb).c3
  have HB1 := Lib.hid (bt_ HB.out hb)
  have HD1 := Lib.hid (HD.out.keep hb)
  have HE1 := Lib.hid (HE.out.keep hb); have HT1 := Lib.hid (HT.out.keep hb); have HS1 := Lib.hid (HS.out.keep hb)
  clear hb
  go_wp2_with fail
  go_loopw [6, 7] (fun y x wr => ∃ (k : Nat) (a : Int) (nn : Nat), k ≤ S.length ∧ x = .int .i64 (k : Int) ∧ y = .int .i64 a ∧ atGo (S.drop k) (d.ex.drop k) (d.st.drop k) a = atO d S ∧ Fit a ∧ wr = w1.drewN nn) (fun _ x _ => S.length - (intOf x).toNat)
  case atStart => exact ⟨0, d.b, 0, Nat.zero_le _, rfl, rfl, atO_start d S, HFB.out, rfl⟩
  case round =>
    obtain ⟨k, a, nn, hk, rfl, rfl, hgo, hfa, rfl⟩ := hrel
    have hk0 : (0 : Int) ≤ (k : Int) := by omega
    by_cases hlt : k < S.length
    · obtain ⟨b3, o3, c3, s, e3, hs, m3⟩ := HS1.out.at_ hlt
      obtain ⟨rfl, rfl⟩ : Z = some ⟨b3, o3, none⟩ ∧ cz = c3 := by simpa using e3
      obtain ⟨b4, o4, c4, ev, e4, hev, m4⟩ := HE1.out.at_ (k := k) (by have := HL.out; omega)
      obtain ⟨rfl, rfl⟩ : E = some ⟨b4, o4, none⟩ ∧ ce = c4 := by simpa using e4
      obtain ⟨b5, o5, c5, tv, e5, htv, m5⟩ := HT1.out.at_ (k := k) (by have := HL.out; have := HO.out.2.1; omega)
      obtain ⟨rfl, rfl⟩ : T = some ⟨b5, o5, none⟩ ∧ ct = c5 := by simpa using e5
      have hlE : k < d.ex.length := by have := HL.out; omega
      have hlT : k < d.st.length := by have := HL.out; have := HO.out.2.1; omega
      have hevb := (okE_iff.1 HO.out.1).2.1 ev (List.mem_of_getElem? hev)
      have htvb := near_iff.1 (List.all_eq_true.1 HO.out.2.2.1 tv (List.mem_of_getElem? htv))
      have HGO := Lib.hid (hgo.symm.trans (atGo_step hs hev htv))
      clear e3 e4 e5 hs hev htv hgo
      obtain ⟨y1, y2, y3⟩ := HD1.out.c3
      by_cases hs0 : s < 0
      · have HX := Lib.hid (HR.out.trans (at_bad HOK.out (HGO.out.trans (by rw [show subB s ev = false by unfold subB; rw [decide_eq_false (show ¬ 0 ≤ s by omega)]; rfl]; rfl))))
        go_wp2_with fail
        go_quiet (fail)
        go_wp2
        go_ret2
        exact ⟨congrArg Ending.returned HX.out.symm, below_dn (below_dn HB1.out _) _⟩
      · by_cases hs1 : ev ≤ s
        · have HX := Lib.hid (HR.out.trans (at_bad HOK.out (HGO.out.trans (by rw [show subB s ev = false by unfold subB; rw [decide_eq_false (show ¬ s < ev by omega)]; simp]; rfl))))
          go_wp2_with fail
          go_quiet (fail)
          go_wp2
          go_ret2
          exact ⟨congrArg Ending.returned HX.out.symm, below_dn (below_dn HB1.out _) _⟩
        · have hsb : subB s ev = true := sub_iff.2 ⟨by omega, by omega⟩
          have HG2 := Lib.hid (HGO.out.trans (by rw [if_pos hsb]))
          have him := mul_near (x := s) (y := tv) (by omega) (by omega) (by omega) (by omega)
          obtain ⟨s1, hs1'⟩ : ∃ s1, s1 = w64 (a + s * tv) := ⟨_, rfl⟩
          rw [← hs1'] at HG2
          have hwi : IntKind.i64.wrap (s * tv) = s * tv := IntWalk.i64_in _ (by omega)
          have hw : IntKind.i64.wrap (a + s * tv) = s1 := hs1'.symm
          have hfs : Fit s1 := by rw [hs1']; exact w64_fit _
          clear hsb hs1'
          go_wp2_with fail
          go_quiet (fail)
          go_wp2_with fail
          go_quiet (fail)
          go_wp2
          go_roundw
          case rel => exact ⟨k + 1, s1, _, by omega, by go_num, rfl, HG2.out.symm, hfs, rfl⟩
          case measure => simp [intOf]; omega
    · obtain rfl : k = S.length := by omega
      have HX := Lib.hid (HR.out.trans (at_yes HOK.out (show atO d S = some a by rw [← hgo]; exact atGo_end (Nat.le_refl _))))
      clear hgo
      go_wp2
      go_ret2
      exact ⟨congrArg Ending.returned HX.out.symm, below_dn HB1.out _⟩
end Go.Proofs.Ytkgdnlknnjiglaa

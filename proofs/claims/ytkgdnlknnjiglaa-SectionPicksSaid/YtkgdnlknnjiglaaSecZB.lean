/- Contracts of Contiguous of both sides. -/
import Derived.Test.YtkgdnlknnjiglaaSecZA
namespace Go.Proofs.Ytkgdnlknnjiglaa
open Go.RowKit

/-- The numbers ascend by 1. -/
def cgB (l : List Int) : Bool := (List.range l.length).all fun i => decide (l.getD i 0 = l.getD 0 0 + (i : Int))
theorem cg_iff {l : List Int} : cgB l = true ↔ ∀ (i : Nat) (x y : Int), l[i]? = some x → l[0]? = some y → x = y + i := by
  unfold cgB
  rw [List.all_eq_true]
  constructor
  · intro h i x y hx hy
    have := h i (List.mem_range.2 (List.getElem?_eq_some_iff.1 hx).1)
    rw [List.getD_eq_getElem?_getD, hx, List.getD_eq_getElem?_getD, hy] at this
    simpa using this
  · intro h i hi
    have hi := List.mem_range.1 hi
    have h1 : l[i]? = some l[i] := List.getElem?_eq_getElem hi
    have h2 : l[0]? = some l[0] := List.getElem?_eq_getElem (by omega)
    rw [List.getD_eq_getElem?_getD, h1, List.getD_eq_getElem?_getD, h2]
    simpa using h i _ _ h1 h2
theorem plcW_le {d : DS} (h : okD d) : (plcW d).length ≤ 4000 := by
  unfold plcW
  by_cases h0 : pr d.ex = 0
  · rw [if_pos h0]; simp
  · rw [if_neg h0]; exact (len_le h h0 (Nat.le_refl _)).2
def cgV (d : DS) : Bool := vldB d && cgB (plcW d)
def cgR (d : DS) : Value := .tuple #[.bool (cgV d), .int .i64 (plE d)]
theorem cg_bad {l : List Int} {i : Nat} {x y : Int} (hx : l[i]? = some x) (hy : l[0]? = some y) (h : ¬ x = y + i) : cgB l = false := by
  rw [Bool.eq_false_iff]; intro h2; exact h (cg_iff.1 h2 i x y hx hy)
theorem place_bd {d : DS} (hv : vldB d = true) (hf : Fit d.b) {x : Int} (hx : x ∈ plcW d) : 0 ≤ x ∧ x ≤ 2147483648 := by
  have h := vld_W (vld_ok hv) hf
  rw [hv] at h
  have := List.all_eq_true.1 h.symm x hx
  unfold placeB at this; simpa using this
set_option maxRecDepth 100000 in
set_option maxHeartbeats 4000000 in
theorem Contiguous_c (v : Value) (d : DS) (w : World) (h : RD w v d) : Calls Try.prog 21 #[v] w fun e w' => e = .returned (cgR d) ∧ Below w.heap.size w w' := by
  have h0 := h
  obtain ⟨ve, vt, rfl, he, ht, hfb⟩ := h
  obtain ⟨o1, z1⟩ : ∃ o : Obj, o = .cells #[.int .i64 d.b, ve, vt] 31 := ⟨_, rfl⟩
  have HB := Lib.hid (box_below w o1)
  have HP := Lib.hid (Places_c _ d _ (h0.keep HB.out))
  have HFB := Lib.hid hfb
  obtain ⟨r, hr⟩ : ∃ r, r = cgR d := ⟨_, rfl⟩
  have HR := Lib.hid hr
  rw [← hr]
  rw [z1] at HB HP
  clear h0 z1 o1 he ht hfb hr
  by_cases hv : vldB d = true
  · rw [show plL d = plcW d by unfold plL; rw [if_pos hv], show plE d = 0 by unfold plE; rw [if_pos hv]] at HP
    have HX := Lib.hid (show r = .tuple #[.bool (cgB (plcW d)), .int .i64 0] by rw [HR.out]; unfold cgR cgV plE; rw [hv, if_pos rfl]; rfl)
    have HBD := Lib.hid (fun x => place_bd (x := x) hv HFB.out)
    have HLE := Lib.hid (plcW_le (vld_ok hv))
    have HOK := Lib.hid (vld_ok hv)
    clear hv
    go_enter Try.func21, Try.ntmps21
    go_wp2_with fail
    refine HP.out.mono ?_
    rintro e w1 ⟨v', rfl, hri, hb⟩
    obtain ⟨L, hL⟩ : ∃ L, L = (plcW d).length := ⟨_, rfl⟩
    obtain ⟨Al, cl, rfl⟩ : ∃ A c, v' = .slice A L c := by
      obtain ⟨A, c, e⟩ := hri.slice
      rw [← hL] at e
      exact ⟨A, c, e⟩
    have HRI := Lib.hid hri; have HB1 := Lib.hid (bt_ HB.out hb); have HL := Lib.hid hL
    have hml : L ≤ 9223372036854775807 := by have := hri.len; omega
    clear hri hb hL
    go_wp2_with fail
    go_loop [18] (fun x => ∃ k : Nat, k ≤ L ∧ x = .int .i64 (k : Int) ∧ ∀ (i : Nat) (x y : Int), i < k → (plcW d)[i]? = some x → (plcW d)[0]? = some y → x = y + i) (fun x => L - (intOf x).toNat)
    case atStart => exact ⟨0, Nat.zero_le _, rfl, fun i _ _ hi => by omega⟩
    case round =>
      obtain ⟨k, hk, rfl, hin⟩ := hrel
      have HIN := Lib.hid hin
      clear hin
      have hk0 : (0 : Int) ≤ (k : Int) := by omega
      by_cases hlt : k < L
      · obtain ⟨b3, o3, c3, x, e3, hx, m3⟩ := HRI.out.at_ (k := k) (by have := HL.out; omega)
        rw [← HL.out] at e3
        obtain ⟨rfl, rfl⟩ : Al = some ⟨b3, o3, none⟩ ∧ cl = c3 := by simpa using e3
        obtain ⟨y, hy⟩ : ∃ y, (plcW d)[0]? = some y := ⟨_, List.getElem?_eq_getElem (by have := HL.out; omega)⟩
        have m0 := HRI.out.cell hy
        rw [Nat.add_zero] at m0
        have hyb := HBD.out y (List.mem_of_getElem? hy)
        have hL0 : 0 < L := by omega
        have HXK := Lib.hid hx; have HYK := Lib.hid hy
        have hkb : k ≤ 4000 := by have := HLE.out; have := HL.out; omega
        clear e3 hx hy
        by_cases hxy : x = y + k
        · have f0 : (x == y + (k : Int)) = true := by simpa using hxy
          have f1 : (x != y + (k : Int)) = false := by simpa using hxy
          have HIN2 := Lib.hid (show ∀ (i : Nat) (x y : Int), i < k + 1 → (plcW d)[i]? = some x → (plcW d)[0]? = some y → x = y + i by
            intro i x' y' hi hx' hy'
            rcases Nat.lt_or_ge i k with h | h
            · exact HIN.out i x' y' h hx' hy'
            · obtain rfl : i = k := by omega
              rw [HXK.out] at hx'; rw [HYK.out] at hy'
              simp at hx' hy'; subst hx'; subst hy'; exact hxy)
          clear hxy
          go_wp2
          go_round
          case rel => exact ⟨k + 1, by omega, by go_num, HIN2.out⟩
          case measure => simp [intOf]; omega
        · have f0 : (x == y + (k : Int)) = false := by simpa using hxy
          have f1 : (x != y + (k : Int)) = true := by simpa using hxy
          have HF := Lib.hid (cg_bad HXK.out HYK.out hxy)
          clear hxy
          go_wp2
          go_ret2
          exact ⟨congrArg Ending.returned (by rw [HX.out, HF.out]; rfl), HB1.out⟩
      · obtain rfl : k = L := by omega
        have HF := Lib.hid (show cgB (plcW d) = true from cg_iff.2 fun i x y hx hy => HIN.out i x y (by have := (List.getElem?_eq_some_iff.1 hx).1; have := HL.out; omega) hx hy)
        go_wp2
        go_ret2
        exact ⟨congrArg Ending.returned (by rw [HX.out, HF.out]; rfl), HB1.out⟩
  · have hv' : vldB d = false := by simpa using hv
    rw [show plL d = [] by unfold plL; rw [if_neg hv], show plE d = 2 by unfold plE; rw [if_neg hv]] at HP
    have HX := Lib.hid (show r = .tuple #[.bool false, .int .i64 2] by rw [HR.out]; unfold cgR cgV plE; rw [hv']; rfl)
    clear hv hv'
    go_enter Try.func21, Try.ntmps21
    go_wp2_with fail
    refine HP.out.mono ?_
    rintro e w1 ⟨v', rfl, hri, hb⟩
    obtain ⟨A, c, rfl⟩ := hri.slice
    have HB1 := Lib.hid (bt_ HB.out hb)
    clear hri hb
    go_wp2
    go_ret2
    exact ⟨congrArg Ending.returned HX.out.symm, HB1.out⟩
set_option maxRecDepth 100000 in
set_option maxHeartbeats 4000000 in
theorem rContiguous_c (v : Value) (d : DS) (w : World) (h : RD w v d) : Calls Try.prog 22 #[v] w fun e w' => e = .returned (cgR d) ∧ Below w.heap.size w w' := by
  have h0 := h
  obtain ⟨ve, vt, rfl, he, ht, hfb⟩ := h
  obtain ⟨o1, z1⟩ : ∃ o : Obj, o = .cells #[.int .i64 d.b, ve, vt] 31 := ⟨_, rfl⟩
  have HB := Lib.hid (box_below w o1)
  have HV := Lib.hid (rValid_c _ d _ (h0.keep HB.out))
  have HD := Lib.hid (Has.new w [.int .i64 d.b, ve, vt] 31)
  have HRD := Lib.hid (h0.keep HB.out)
  have HFB := Lib.hid hfb
  obtain ⟨r, hr⟩ : ∃ r, r = cgR d := ⟨_, rfl⟩
  have HR := Lib.hid hr
  rw [← hr]
  rw [z1] at HB HV HRD
  clear h0 z1 o1 he ht hfb hr
  by_cases hv : vldB d = true
  · rw [hv] at HV
    have HX := Lib.hid (show r = .tuple #[.bool (cgB (plcW d)), .int .i64 0] by rw [HR.out]; unfold cgR cgV plE; rw [hv, if_pos rfl]; rfl)
    have HBD := Lib.hid (fun x => place_bd (x := x) hv HFB.out)
    have HLE := Lib.hid (plcW_le (vld_ok hv))
    have HOK := Lib.hid (vld_ok hv)
    clear hv
    go_enter Try.func22, Try.ntmps22
    go_wp2_with fail
    refine HV.out.mono ?_
    rintro e w0 ⟨rfl, hb0⟩
    obtain ⟨g1, g2, g3⟩ := (HD.out.keep hb0).c3
    have HB0 := Lib.hid (bt_ HB.out hb0)
    have HP := Lib.hid (rplaces_c _ d _ (HRD.out.keep hb0) HOK.out)
    clear hb0
    go_wp2_with fail
    refine HP.out.mono ?_
    rintro e w1 ⟨v', rfl, ho, hb⟩
    have hri := ho.ri
    clear ho
    obtain ⟨L, hL⟩ : ∃ L, L = (plcW d).length := ⟨_, rfl⟩
    obtain ⟨Al, cl, rfl⟩ : ∃ A c, v' = .slice A L c := by
      obtain ⟨A, c, e⟩ := hri.slice
      rw [← hL] at e
      exact ⟨A, c, e⟩
    have HRI := Lib.hid hri; have HB1 := Lib.hid (bt_ HB0.out hb); have HL := Lib.hid hL
    have hml : L ≤ 9223372036854775807 := by have := hri.len; omega
    clear hri hb hL
    go_wp2_with fail
    go_loopw [5] (fun x wr => ∃ k nn : Nat, 1 ≤ k ∧ (k ≤ L ∨ k = 1) ∧ x = .int .i64 (k : Int) ∧ wr = w1.drewN nn ∧ ∀ (i : Nat) (x y : Int), i < k → (plcW d)[i]? = some x → (plcW d)[0]? = some y → x = y + i) (fun x _ => L - (intOf x).toNat)
    case atStart =>
      refine ⟨1, 0, Nat.le_refl _, Or.inr rfl, rfl, rfl, fun i x y hi hx hy => ?_⟩
      have hi0 : i = 0 := by omega
      rw [hi0] at hx ⊢
      rw [hx] at hy
      simp at hy
      subst hy
      simp
    case round =>
      obtain ⟨k, nn, hk1, hk, rfl, rfl, hin⟩ := hrel
      have HIN := Lib.hid hin
      clear hin
      have hk0 : (0 : Int) ≤ (k : Int) := by omega
      by_cases hlt : k < L
      · obtain ⟨b3, o3, c3, x, e3, hx, m3⟩ := HRI.out.at_ (k := k) (by have := HL.out; omega)
        rw [← HL.out] at e3
        obtain ⟨rfl, rfl⟩ : Al = some ⟨b3, o3, none⟩ ∧ cl = c3 := by simpa using e3
        obtain ⟨y, hy⟩ : ∃ y, (plcW d)[0]? = some y := ⟨_, List.getElem?_eq_getElem (by have := HL.out; omega)⟩
        obtain ⟨z, hz⟩ : ∃ z, (plcW d)[k - 1]? = some z := ⟨_, List.getElem?_eq_getElem (by have := HL.out; omega)⟩
        have mz := HRI.out.cell hz
        have hzb := HBD.out z (List.mem_of_getElem? hz)
        have hzy := HIN.out (k - 1) z y (by omega) hz hy
        have hkc : ((k - 1 : Nat) : Int) = (k : Int) - 1 := by omega
        have hkt : ((k : Int) - 1).toNat = k - 1 := by omega
        have hkw : IntKind.i64.wrap ((k : Int) - 1) = (k : Int) - 1 := IntWalk.i64_in _ (by omega)
        have hk2 : (1 : Int) ≤ (k : Int) := by omega
        have hk3 : (k : Int) - 1 < (L : Int) := by omega
        have hk4 : (0 : Int) ≤ (k : Int) - 1 := by omega
        have hzw : IntKind.i64.wrap (z + 1) = z + 1 := IntWalk.i64_in _ (by omega)
        have HXK := Lib.hid hx; have HYK := Lib.hid hy
        rw [hkc] at hzy
        have HZY := Lib.hid hzy
        clear e3 hx hy hz hzy hkc
        by_cases hxy : x = z + 1
        · have f0 : (x == z + 1) = true := by simpa using hxy
          have f1 : (x != z + 1) = false := by simpa using hxy
          have HIN2 := Lib.hid (show ∀ (i : Nat) (x y : Int), i < k + 1 → (plcW d)[i]? = some x → (plcW d)[0]? = some y → x = y + i by
            intro i x' y' hi hx' hy'
            rcases Nat.lt_or_ge i k with h | h
            · exact HIN.out i x' y' h hx' hy'
            · obtain rfl : i = k := by omega
              rw [HXK.out] at hx'; rw [HYK.out] at hy'
              simp at hx' hy'; subst hx'; subst hy'; have := HZY.out; omega)
          clear hxy
          go_wp2_with fail
          go_quiet (fail)
          go_wp2
          go_roundw
          case rel => exact ⟨k + 1, _, by omega, by omega, by go_num, rfl, HIN2.out⟩
          case measure => simp [intOf]; omega
        · have f0 : (x == z + 1) = false := by simpa using hxy
          have f1 : (x != z + 1) = true := by simpa using hxy
          have HF := Lib.hid (cg_bad HXK.out HYK.out (show ¬ x = y + k by have := HZY.out; omega))
          clear hxy
          go_wp2_with fail
          go_quiet (fail)
          go_wp2
          go_ret2
          exact ⟨congrArg Ending.returned (by rw [HX.out, HF.out]; rfl), below_dn (below_dn HB1.out _) _⟩
      · have HF := Lib.hid (show cgB (plcW d) = true from cg_iff.2 fun i x y hx hy => HIN.out i x y (by have := (List.getElem?_eq_some_iff.1 hx).1; have := HL.out; omega) hx hy)
        clear hk
        go_wp2
        go_ret2
        exact ⟨congrArg Ending.returned (by rw [HX.out, HF.out]; rfl), below_dn HB1.out _⟩
  · have hv' : vldB d = false := by simpa using hv
    rw [hv'] at HV
    have HX := Lib.hid (show r = .tuple #[.bool false, .int .i64 2] by rw [HR.out]; unfold cgR cgV plE; rw [hv']; rfl)
    clear hv hv'
    go_enter Try.func22, Try.ntmps22
    go_wp2_with fail
    refine HV.out.mono ?_
    rintro e w1 ⟨rfl, hb⟩
    have HB1 := Lib.hid (bt_ HB.out hb)
    clear hb
    go_wp2
    go_ret2
    exact ⟨congrArg Ending.returned HX.out.symm, HB1.out⟩
end Go.Proofs.Ytkgdnlknnjiglaa

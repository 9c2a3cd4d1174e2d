/- Contract of the document's Pick. -/
import Derived.Test.YtkgdnlknnjiglaaPkG
namespace Go.Proofs.Ytkgdnlknnjiglaa
open Go.RowKit

/-- The heads of the loops of the document's Pick. -/
def RRel (Ls : List (List Int)) (d : DS) (nb : Nat) (W1 : World) (vo x : Value) (wr : World) : Prop :=
  ∃ k : Nat, k ≤ Ls.length ∧ x = .int .i64 (k : Int) ∧ (∀ j, j ≤ k → pn Ls j ≤ 4000) ∧ OW wr nb vo (pkK Ls d.st d.b k) ∧ Below nb W1 wr ∧ nb ≤ wr.heap.size
def RQRel (out l : List Int) (nb : Nat) (s : Int) (vo : Value) (W1 : World) (vn x : Value) (wr : World) : Prop :=
  ∃ i : Nat, i ≤ l.length ∧ x = .int .i64 (i : Int) ∧ TW wr nb vo vn out (stepP out s (l.take i)) ∧ Below nb W1 wr ∧ nb ≤ wr.heap.size
def RSRel (out l : List Int) (nb i : Nat) (s y : Int) (vo : Value) (W1 : World) (vn x : Value) (wr : World) : Prop :=
  ∃ n : Nat, n ≤ out.length ∧ x = .int .i64 (n : Int) ∧ TW wr nb vo vn out (stepP out s (l.take i) ++ (chunkP out s y).take n) ∧ Below nb W1 wr ∧ nb ≤ wr.heap.size
set_option maxRecDepth 100000 in
set_option maxHeartbeats 4000000 in
theorem rPick_c (v vL : Value) (d : DS) (Ls : List (List Int)) (w : World) (h : RD w v d) (hL : RL w vL Ls) (hsm : ∀ l ∈ Ls, l.length ≤ 6000) : Calls Try.prog 32 #[v, vL] w (LPost (pkL d Ls) (pkE d Ls) w) := by
  have h0 := h
  obtain ⟨ve, vt, rfl, he, ht, hfb⟩ := h
  obtain ⟨o1, z1⟩ : ∃ o : Obj, o = .cells #[.int .i64 d.b, ve, vt] 31 := ⟨_, rfl⟩
  have HB := Lib.hid (box_below w o1)
  have HV := Lib.hid (rValid_c _ d _ (h0.keep HB.out))
  have HE := Lib.hid (he.keep HB.out); have HT := Lib.hid (ht.keep HB.out); have HLL := Lib.hid (hL.keep HB.out)
  have HD := Lib.hid (Has.new w [.int .i64 d.b, ve, vt] 31)
  rw [z1] at HB HV HE HT HLL
  obtain ⟨E, ce, rfl⟩ := he.slice
  obtain ⟨T, ct, rfl⟩ := ht.slice
  obtain ⟨Z, cz, rfl, hmz, -⟩ := hL
  have hme := he.len; have hmt := ht.len
  have HSM := Lib.hid hsm; have HFB := Lib.hid hfb
  clear h0 he ht z1 o1 hsm
  by_cases hv : vldB d = true
  rotate_left
  · rw [show vldB d = false by simpa using hv] at HV
    have HX := Lib.hid (pk_no (show pkOk d Ls = false by unfold pkOk; rw [show vldB d = false by simpa using hv]; rfl))
    rw [HX.out.1, HX.out.2]
    clear hv
    go_enter Try.func32, Try.ntmps32
    go_wp2_with fail
    refine HV.out.mono ?_
    rintro e w1 ⟨rfl, hb⟩
    have HB1 := Lib.hid (bt_ HB.out hb)
    clear hb
    go_wp2
    go_ret2
    exact ⟨_, rfl, RI.nil _ _, HB1.out⟩
  rw [hv] at HV
  have HO := Lib.hid (vld_ok hv)
  have HVV := Lib.hid hv
  clear hv
  by_cases hl : Ls.length = d.ex.length
  rotate_left
  · have f0 : ((Ls.length : Int) == (d.ex.length : Int)) = false := by simp; omega
    have f1 : ((Ls.length : Int) != (d.ex.length : Int)) = true := by simp; omega
    have HX := Lib.hid (pk_no (show pkOk d Ls = false by unfold pkOk; rw [decide_eq_false hl]; simp))
    rw [HX.out.1, HX.out.2]
    clear hl
    go_enter Try.func32, Try.ntmps32
    go_wp2_with fail
    refine HV.out.mono ?_
    rintro e w1 ⟨rfl, hb⟩
    have HB1 := Lib.hid (bt_ HB.out hb)
    obtain ⟨y1, y2, y3⟩ := (HD.out.keep hb).c3
    clear hb
    go_wp2
    go_ret2
    exact ⟨_, rfl, RI.nil _ _, HB1.out⟩
  have f0 : ((Ls.length : Int) == (d.ex.length : Int)) = true := by simp; omega
  have f1 : ((Ls.length : Int) != (d.ex.length : Int)) = false := by simp; omega
  have HL := Lib.hid hl
  have HOK := Lib.hid (show pkOk d Ls = true by unfold pkOk; rw [HVV.out, decide_eq_true hl]; rfl)
  clear hl
  go_enter Try.func32, Try.ntmps32
  go_wp2_with fail
  refine HV.out.mono ?_
  rintro e w1 ⟨rfl, hb⟩
  have HB1 := Lib.hid (bt_ HB.out hb)
  have HD1 := Lib.hid (HD.out.keep hb)
  have HE1 := Lib.hid (HE.out.keep hb); have HT1 := Lib.hid (HT.out.keep hb); have HLL1 := Lib.hid (HLL.out.keep hb)
  have hs1 : w.heap.size + 1 ≤ w1.heap.size := by have := hb.size; simp at this; omega
  obtain ⟨y1, y2, y3⟩ := HD1.out.c3
  clear hb
  go_wp2_with fail
  go_loopw [6] (fun x wr => ∃ k nn : Nat, k ≤ Ls.length ∧ x = .int .i64 (k : Int) ∧ inP d Ls k ∧ wr = w1.drewN nn) (fun x _ => Ls.length - (intOf x).toNat)
  case atStart => exact ⟨0, 0, Nat.zero_le _, rfl, fun j _ _ hj => by omega, rfl⟩
  case round =>
    obtain ⟨k, nn, hk, rfl, hin, rfl⟩ := hrel
    have HIN := Lib.hid hin
    clear hin
    by_cases hlt : k < Ls.length
    · obtain ⟨b3, o3, c3, l, A', c', e3, hl, hc, hR⟩ := HLL1.out.at_ hlt
      obtain ⟨rfl, rfl⟩ : Z = some ⟨b3, o3, none⟩ ∧ cz = c3 := by simpa using e3
      obtain ⟨b4, o4, c4, ev, e4, hev, me⟩ := HE1.out.at_ (k := k) (by have := HL.out; omega)
      obtain ⟨rfl, rfl⟩ : E = some ⟨b4, o4, none⟩ ∧ ce = c4 := by simpa using e4
      have hlE : k < d.ex.length := by have := HL.out; omega
      have HLK := Lib.hid hl; have HEK := Lib.hid hev; have HRK := Lib.hid hR
      have hml := hR.len
      clear e3 e4 hl hev hR
      go_wp2_with fail
      go_loopw [7] (fun x wr => ∃ i mm : Nat, i ≤ l.length ∧ x = .int .i64 (i : Int) ∧ (∀ s ∈ l.take i, subB s ev = true) ∧ wr = w1.drewN mm) (fun x _ => l.length - (intOf x).toNat)
      case atStart => exact ⟨0, nn, Nat.zero_le _, rfl, fun s hs => by simp at hs, rfl⟩
      case round =>
        obtain ⟨i, mm, hi, rfl, hall, rfl⟩ := hrel
        have HALL := Lib.hid hall
        clear hall
        by_cases hlt2 : i < l.length
        · obtain ⟨b5, o5, c5, s, e5, hs, ms⟩ := HRK.out.at_ hlt2
          obtain ⟨rfl, rfl⟩ : A' = some ⟨b5, o5, none⟩ ∧ c' = c5 := by simpa using e5
          have HSI := Lib.hid hs
          clear e5 hs
          have hcase : s < 0 ∨ (¬ s < 0 ∧ ev ≤ s) ∨ (¬ s < 0 ∧ ¬ ev ≤ s) := by omega
          rcases hcase with h1 | ⟨h1, h2⟩ | ⟨h1, h2⟩
          rotate_left 2
          · have HN := Lib.hid (show ∀ x ∈ l.take (i + 1), subB x ev = true from fun x hx => by
              rw [List.take_add_one, HSI.out] at hx
              rcases List.mem_append.1 hx with hx | hx
              · exact HALL.out x hx
              · simp at hx; rw [hx]; exact sub_iff.2 (by omega))
            have d1 : decide (s < 0) = false := decide_eq_false h1
            have d2 : decide (ev ≤ s) = false := decide_eq_false h2
            go_wp2_with fail
            go_quiet (fail)
            go_wp2
            go_roundw
            case rel => exact ⟨i + 1, mm + nq, by omega, by go_num, HN.out, rfl⟩
            case measure => simp [intOf]; omega
          · have HX := Lib.hid (pk_out HOK.out (in_bad HLK.out HEK.out (List.mem_of_getElem? HSI.out) (by
              rw [Bool.eq_false_iff]; intro h; rw [sub_iff] at h; omega)))
            have d1 : decide (s < 0) = true := decide_eq_true h1
            go_wp2_with fail
            go_quiet (fail)
            go_wp2
            go_ret2
            rw [HX.out.1, HX.out.2]
            exact ⟨_, rfl, RI.nil _ _, below_dn (below_dn HB1.out _) _⟩
          · have HX := Lib.hid (pk_out HOK.out (in_bad HLK.out HEK.out (List.mem_of_getElem? HSI.out) (by
              rw [Bool.eq_false_iff]; intro h; rw [sub_iff] at h; omega)))
            have d1 : decide (s < 0) = false := decide_eq_false h1
            have d2 : decide (ev ≤ s) = true := decide_eq_true h2
            go_wp2_with fail
            go_quiet (fail)
            go_wp2
            go_ret2
            rw [HX.out.1, HX.out.2]
            exact ⟨_, rfl, RI.nil _ _, below_dn (below_dn HB1.out _) _⟩
        · obtain rfl : i = l.length := by omega
          have HN := Lib.hid (show inP d Ls (k + 1) from fun j l' e hj h1 h2 => by
            rcases Nat.lt_or_ge j k with h | h
            · exact HIN.out j l' e h h1 h2
            · have hjk : j = k := by omega
              subst hjk
              rw [HLK.out] at h1; rw [HEK.out] at h2
              cases h1; cases h2
              rw [List.all_eq_true]
              intro s hs
              exact HALL.out s (by rw [List.take_length]; exact hs))
          go_wp2
          go_roundw
          case rel => exact ⟨k + 1, mm, by omega, by go_num, HN.out, rfl⟩
          case measure => simp [intOf]; omega
    · obtain rfl : k = Ls.length := by omega
      have HPI := Lib.hid (in_all.2 HIN.out)
      have HB2 := Lib.hid (below_dn HB1.out nn)
      have HD2 := Lib.hid (HD1.out.drewN nn)
      have HT2 := Lib.hid (HT1.out.drewN nn)
      have HLL2 := Lib.hid (show RL (w1.drewN nn) (.slice Z Ls.length cz) Ls from HLL1.out)
      have hs2 : w.heap.size + 1 ≤ (w1.drewN nn).heap.size := hs1
      clear hs1 y1 y2 y3
      obtain ⟨W2, hW2⟩ : ∃ W, W = w1.drewN nn := ⟨_, rfl⟩
      rw [← hW2] at HB2 HD2 HT2 HLL2 hs2
      have HW2 := Lib.hid hW2
      have HIN2 := Lib.hid HIN.out
      clear hW2
      obtain ⟨y1, y2, y3⟩ := HD1.out.c3
      go_wp2_with fail
      rw [← HW2.out]
      clear y1 y2 y3
      go_loopw [8, 9] (RRel Ls d W2.heap.size W2) (fun _ x _ => Ls.length - (intOf x).toNat)
      case atStart =>
        have hst := OW.oneN W2 d.b _ W2.heap.size HFB.out rfl (Nat.le_refl _)
        refine ⟨0, Nat.zero_le _, rfl, fun j hj => by (have : j = 0 := by omega); subst this; rw [pn_zero]; omega, ?_, box_below _ _, by simp⟩
        first | exact hst | (rw [HW2.out] at hst ⊢; exact hst)
      case round =>
        obtain ⟨k, hk, rfl, hpn, hO, hB, hnb⟩ := hrel
        have HPN := Lib.hid hpn
        by_cases hlt : k < Ls.length
        · obtain ⟨b3, o3, c3, l, A', c', e3, hl, hc, hR⟩ := (HLL2.out.keep hB).at_ hlt
          obtain ⟨rfl, rfl⟩ : Z = some ⟨b3, o3, none⟩ ∧ cz = c3 := by simpa using e3
          obtain ⟨b5, o5, c5, tv, e5, htv, mt⟩ := (HT2.out.keep hB).at_ (k := k) (by have := HO.out.2.1; have := HL.out; omega)
          obtain ⟨rfl, rfl⟩ : T = some ⟨b5, o5, none⟩ ∧ ct = c5 := by simpa using e5
          obtain ⟨y1, y2, y3⟩ := (HD2.out.keep hB).c3
          have hlT : k < d.st.length := by have := HO.out.2.1; have := HL.out; omega
          have hl6 := HSM.out l (List.mem_of_getElem? hl)
          have htvb := near_iff.1 (List.all_eq_true.1 HO.out.2.2.1 tv (List.mem_of_getElem? htv))
          obtain ⟨ev, hev⟩ : ∃ e, d.ex[k]? = some e := ⟨_, List.getElem?_eq_getElem (by have := HL.out; omega)⟩
          have hevb := (okE_iff.1 HO.out.1).2.1 ev (List.mem_of_getElem? hev)
          have HSB := Lib.hid (show ∀ x ∈ l, 0 ≤ x ∧ x ≤ 4000 from fun x hx => by
            have := sub_iff.1 (List.all_eq_true.1 (HIN2.out k l ev hlt hl hev) x hx)
            omega)
          have HLK := Lib.hid hl; have HTV := Lib.hid htv
          obtain ⟨L, hL⟩ : ∃ L, L = (pkK Ls d.st d.b k).length := ⟨_, rfl⟩
          have hLp : L = pn Ls k := by rw [hL, pkK_len (by have := HO.out.2.1; have := HL.out; omega) k hk]
          have hL4 : L ≤ 4000 := by rw [hLp]; exact hpn k (Nat.le_refl _)
          have HLP := Lib.hid hLp
          obtain ⟨Ao, co, rfl⟩ : ∃ A c, u8 = .slice A L c := by
            obtain ⟨A, c, e⟩ := hO.slice (n := L) hL.symm
            exact ⟨A, c, e⟩
          have hmul : (L : Int) * (l.length : Int) = ((L * l.length : Nat) : Int) := by simp
          have hmul2 : L * l.length ≤ 4000 * 6000 := Nat.mul_le_mul hL4 hl6
          have hwm : IntKind.i64.wrap ((L : Int) * (l.length : Int)) = ((L * l.length : Nat) : Int) := by rw [hmul]; exact IntWalk.i64_in _ (by omega)
          obtain ⟨q, hq⟩ : ∃ q, q = L * l.length := ⟨_, rfl⟩
          rw [← hq] at hwm hmul2
          have HPS := Lib.hid (show pn Ls (k + 1) = q by rw [pn_succ hl, hq, hLp])
          have HLn := Lib.hid hL; have HO' := Lib.hid hO; have HBB := Lib.hid hB; have HRK := Lib.hid hR
          have hml := hR.len
          clear e3 e5 hl htv hO hB hL hpn hmul hLp hev hR hq
          by_cases hbig : 4000 < q
          · have HX := Lib.hid (pk_big HOK.out HPI.out (fit_big (k := k + 1) (by omega) (by rw [HPS.out]; exact hbig)))
            have hq2 : (4000 : Int) < (q : Int) := by omega
            go_wp2
            go_ret2
            rw [HX.out.1, HX.out.2]
            exact ⟨_, rfl, RI.nil _ _, bt_ HB2.out (HBB.out)⟩
          · have hq2 : ¬ (4000 : Int) < (q : Int) := by omega
            go_wp2_with fail
            go_loopw [10, 11] (RQRel (pkK Ls d.st d.b k) l W2.heap.size tv (.slice Ao L co) W2) (fun _ x _ => l.length - (intOf x).toNat)
            case atStart => exact ⟨0, Nat.zero_le _, rfl, ⟨HO'.out, OW.nil _ _, fun g _ h => by simp [Value.ownBlock] at h⟩, HBB.out, hnb⟩
            case round =>
              obtain ⟨i, hi, rfl, hTT, hB2, hnb2⟩ := hrel
              obtain ⟨y1, y2, y3⟩ := (HD2.out.keep hB2).c3
              obtain ⟨b6, o6, c6, l', A6, c6', e6, hl6', hc6, hR6⟩ := (HLL2.out.keep hB2).at_ hlt
              obtain ⟨⟨rfl, rfl⟩, rfl⟩ : (b3 = b6 ∧ o3 = o6) ∧ cz = c6 := by simpa using e6
              obtain rfl : l = l' := by rw [HLK.out] at hl6'; simpa using hl6'
              obtain ⟨An, Ln, cn, hLn, hvn⟩ : ∃ An Ln cn, Ln = (stepP (pkK Ls d.st d.b k) tv (l.take i)).length ∧ u10 = .slice An Ln cn := by
                obtain ⟨A, c, e⟩ := hTT.2.1.ri.slice
                exact ⟨A, _, c, rfl, e⟩
              subst hvn
              by_cases hlt2 : i < l.length
              · obtain ⟨b7, o7, c7, x, e7, hx, mx⟩ := hR6.at_ hlt2
                obtain ⟨rfl, rfl⟩ : A6 = some ⟨b7, o7, none⟩ ∧ c6' = c7 := by simpa using e7
                have hxb := HSB.out x (List.mem_of_getElem? hx)
                have HXI := Lib.hid hx
                have HLE := Lib.hid (show (i + 1) * L ≤ 4000 by
                  have h1 := HPS.out
                  have h2 : (i + 1) * L ≤ l.length * L := Nat.mul_le_mul_right _ (by omega)
                  have h3 : pn Ls k * l.length = q := by rw [← h1, pn_succ HLK.out]
                  rw [← HLP.out, Nat.mul_comm] at h3
                  omega)
                have HTT := Lib.hid hTT; have HBB2 := Lib.hid hB2; have HLn2 := Lib.hid hLn
                have HR6 := Lib.hid hR6
                clear hTT hB2 hLn e6 e7 hl6' hx hR6
                go_wp2_with fail
                go_loopw [10, 12] (RSRel (pkK Ls d.st d.b k) l W2.heap.size i tv x (.slice Ao L co) W2) (fun _ x _ => L - (intOf x).toNat)
                case atStart => exact ⟨0, Nat.zero_le _, rfl, by rw [List.take_zero, List.append_nil]; exact HTT.out, HBB2.out, hnb2⟩
                case round =>
                  obtain ⟨n, hn, rfl, hTT3, hB3, hnb3⟩ := hrel
                  rw [← HLn.out] at hn
                  by_cases hlt3 : n < L
                  · obtain ⟨y, hy⟩ : ∃ y, (pkK Ls d.st d.b k)[n]? = some y := ⟨_, List.getElem?_eq_getElem (by have := HLn.out; omega)⟩
                    obtain ⟨bo, oo, co', y', e5, hy', mo⟩ := hTT3.1.ri.at_ (k := n) (by have := HLn.out; omega)
                    rw [← HLn.out] at e5
                    obtain ⟨rfl, rfl⟩ : Ao = some ⟨bo, oo, none⟩ ∧ co = co' := by simpa using e5
                    obtain rfl : y = y' := by rw [hy'] at hy; simpa using hy.symm
                    obtain ⟨y1, y2, y3⟩ := (HD2.out.keep hB3).c3
                    have mt := (HT2.out.keep hB3).cell HTV.out
                    obtain ⟨b8, o8, c8, l8, A8, c8', e8, hl8, hc8, hR8⟩ := (HLL2.out.keep hB3).at_ hlt
                    obtain ⟨⟨rfl, rfl⟩, rfl⟩ : (b3 = b8 ∧ o3 = o8) ∧ cz = c8 := by simpa using e8
                    obtain rfl : l = l8 := by rw [HLK.out] at hl8; simpa using hl8
                    obtain ⟨b9, o9, c9, x9, e9, hx9, mx⟩ := hR8.at_ hlt2
                    obtain ⟨rfl, rfl⟩ : A8 = some ⟨b9, o9, none⟩ ∧ c8' = c9 := by simpa using e9
                    obtain rfl : x = x9 := by rw [HXI.out] at hx9; simpa using hx9
                    have him := mul_near (x := x) (y := tv) (by omega) (by omega) (by omega) (by omega)
                    have HCT := Lib.hid (chunkP_take (s := tv) (x := x) hy)
                    obtain ⟨s1, hs1⟩ : ∃ s1, s1 = w64 (y + x * tv) := ⟨_, rfl⟩
                    rw [← hs1] at HCT
                    have hwi : IntKind.i64.wrap (x * tv) = x * tv := IntWalk.i64_in _ (by omega)
                    have hw : IntKind.i64.wrap (y + x * tv) = s1 := hs1.symm
                    have hfs : Fit s1 := by rw [hs1]; exact w64_fit _
                    obtain ⟨A3, L3, c3', hL3, hvn⟩ : ∃ An Ln cn, Ln = (stepP (pkK Ls d.st d.b k) tv (l.take i) ++ (chunkP (pkK Ls d.st d.b k) tv x).take n).length ∧ u10 = .slice An Ln cn := by
                      obtain ⟨A, c, e⟩ := hTT3.2.1.ri.slice
                      exact ⟨A, _, c, rfl, e⟩
                    subst hvn
                    have HT3 := Lib.hid hTT3; have HB3 := Lib.hid hB3; have HL3 := Lib.hid hL3
                    clear hTT3 hB3 hL3 e5 hy hy' hs1 e8 hl8 hR8 e9 hx9
                    go_wp2_with fail
                    obtain ⟨i0, hi0, hz0, hz1, hz2⟩ := info_parts info3
                    have hown := HT3.out.2.1.1
                    have hll : L3 + 1 ≤ 4000 := by
                      have h1 := HLE.out; have h2 := HL3.out
                      rw [List.length_append, stepP_len, List.length_take, List.length_take, chunkP_len, ← HLn.out] at h2
                      rw [Nat.add_mul, Nat.one_mul] at h1
                      have e1 : min n L = n := by omega
                      have e2 : min i l.length = i := by omega
                      rw [e1, e2] at h2
                      omega
                    rw [← HL3.out] at hown
                    obtain ⟨xs, hxs⟩ : ∃ xs, xs = stepP (pkK Ls d.st d.b k) tv (l.take i) ++ (chunkP (pkK Ls d.st d.b k) tv x).take n := ⟨_, rfl⟩
                    rw [← hxs] at hown
                    have HXS := Lib.hid hxs
                    clear hxs
                    go_region_law
                      ((refine step_append_lies _ (by rfl) _ _ _ (by rfl) W2.heap.size 3 i0 _ 1 8 Try.underlying29 hi0 hz0 hz1 hz2 rfl (by omega) (.slice A3 L3 c3') L3 (icells xs) (by rfl) ((hown.alloc _).drew)
                          ⟨wr.heap.size, 0, none⟩ 1 1 [.int .i64 s1] (by rfl) (by rfl) (World.news_of_block (cs := #[.int .i64 s1]) (t := 3) (fr := (0, 0)) (heap_alloc_new wr _)) (by simp [Value.oneCell'])
                          (by omega) (by unfold maxLen; omega) (by omega) (by simp; omega) (wr.heap.size + 1) (by simp) ?_; intro gg cap w3 hown1 hgrow hat hlt))
                    all_goals
                      have HTW : TW ((wr.alloc (.cells #[.int .i64 s1] 3)).drew) W2.heap.size (.slice (some ⟨bo, oo, none⟩) L co) (.slice A3 L3 c3') (pkK Ls d.st d.b k) xs := by rw [HXS.out]; exact HT3.out.alloc _
                      have hlx : xs.length = L3 := by rw [HXS.out]; exact HL3.out.symm
                      have HOW : OW w3 W2.heap.size (.slice (some ⟨gg, 0, none⟩) (L3 + 1) cap) (xs ++ [s1]) := by
                        refine ⟨?_, ?_, ?_⟩
                        · rw [icells_app, List.length_append, hlx]; exact hown1
                        · intro x hx
                          rcases List.mem_append.1 hx with hx | hx
                          · exact HTW.2.1.2.1 x hx
                          · simp at hx; rw [hx]; exact hfs
                        · rw [List.length_append, hlx]; simp; omega
                      have HTN := Lib.hid (HTW.swap.app HOW hgrow (by
                        rcases hat with h | h
                        · exact Or.inl h.symm
                        · exact Or.inr (by show some gg = some ((wr.alloc (.cells #[.int .i64 s1] 3)).heap.size); rw [h]; simp))).swap
                      have HBN := Lib.hid (((HB3.out.alloc hnb3 (.cells #[.int .i64 s1] 3)).drew).grown hgrow (by show W2.heap.size ≤ (wr.alloc (.cells #[.int .i64 s1] 3)).heap.size; simp; omega) (fun g hg => (HTW.2.1.lt g hg).1))
                      have hsn : W2.heap.size ≤ w3.heap.size := by have := HBN.out.size; omega
                      have HXN := Lib.hid (show stepP (pkK Ls d.st d.b k) tv (l.take i) ++ (chunkP (pkK Ls d.st d.b k) tv x).take (n + 1) = xs ++ [s1] by rw [HCT.out, HXS.out, List.append_assoc])
                      clear hown hown1 hgrow hat HTW HOW hlx
                      go_wp2
                      go_roundw
                      case rel => exact ⟨n + 1, by have := HLn.out; omega, by go_num, by rw [HXN.out]; exact HTN.out, HBN.out, hsn⟩
                      case measure => simp [intOf]; omega
                  · obtain rfl : n = L := by omega
                    have HT3 := Lib.hid hTT3; have HB3 := Lib.hid hB3
                    obtain ⟨A3, L3, c3', hL3, hvn⟩ : ∃ An Ln cn, Ln = (stepP (pkK Ls d.st d.b k) tv (l.take i) ++ (chunkP (pkK Ls d.st d.b k) tv x).take n).length ∧ u10 = .slice An Ln cn := by
                      obtain ⟨A, c, e⟩ := hTT3.2.1.ri.slice
                      exact ⟨A, _, c, rfl, e⟩
                    subst hvn
                    have HN3 := Lib.hid (show stepP (pkK Ls d.st d.b k) tv (l.take (i + 1)) = stepP (pkK Ls d.st d.b k) tv (l.take i) ++ (chunkP (pkK Ls d.st d.b k) tv x).take n by rw [stepP_succ HXI.out, show (chunkP (pkK Ls d.st d.b k) tv x).take n = chunkP (pkK Ls d.st d.b k) tv x from List.take_of_length_le (by rw [chunkP_len]; have := HLn.out; omega)])
                    clear hTT3 hB3 hL3
                    go_wp2
                    go_roundw
                    case rel => exact ⟨i + 1, by omega, by go_num, by rw [HN3.out]; exact HT3.out, HB3.out, hnb3⟩
                    case measure => simp [intOf]; omega
              · obtain rfl : i = l.length := by omega
                have HTT := Lib.hid hTT; have HBB2 := Lib.hid hB2
                have HN2 := Lib.hid (show pkK Ls d.st d.b (k + 1) = stepP (pkK Ls d.st d.b k) tv (l.take l.length) by rw [pkK_succ HLK.out HTV.out, List.take_length])
                have HPN2 := Lib.hid (show ∀ j, j ≤ k + 1 → pn Ls j ≤ 4000 from fun j hj => by
                  rcases Nat.lt_or_ge j (k + 1) with h | h
                  · exact HPN.out j (by omega)
                  · have : j = k + 1 := by omega
                    rw [this, HPS.out]; omega)
                clear hTT hB2 hLn e6 hl6'
                go_wp2
                go_roundw
                case rel => exact ⟨k + 1, by omega, by go_num, HPN2.out, by rw [HN2.out]; exact HTT.out.2.1, HBB2.out, hnb2⟩
                case measure => simp [intOf]; omega
        · obtain rfl : k = Ls.length := by omega
          have HX := Lib.hid (pk_yes HOK.out HPI.out (fit_all hpn))
          have HO' := Lib.hid hO; have HBB := Lib.hid (bt_ HB2.out hB)
          clear hO hB
          go_wp2
          go_ret2
          rw [HX.out.1, HX.out.2]
          exact ⟨_, rfl, HO'.out.ri, HBB.out⟩
end Go.Proofs.Ytkgdnlknnjiglaa

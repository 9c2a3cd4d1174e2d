/- Contract of Cut. -/
import Derived.Test.YtkgdnlknnjiglaaSecI
namespace Go.Proofs.Ytkgdnlknnjiglaa
open Go.RowKit

set_option maxRecDepth 100000 in
set_option maxHeartbeats 4000000 in
theorem Cut_c (v vs : Value) (d : DS) (S : List SB) (w : World) (h : RD w v d) (hS : RS w vs S) : Calls Try.prog 29 #[v, vs] w (DPost (cutD d S) (cutE d S) w) := by
  have h0 := h
  obtain ⟨ve, vt, rfl, he, ht, hfb⟩ := h
  obtain ⟨o1, z1⟩ : ∃ o : Obj, o = .cells #[.int .i64 d.b, ve, vt] 31 := ⟨_, rfl⟩
  obtain ⟨o2, z2⟩ : ∃ o : Obj, o = .cells #[.int .i64 0, .slice none 0 0, .slice none 0 0] 31 := ⟨_, rfl⟩
  have HB := Lib.hid ((box_below w o1).trans ((box_below (w.alloc o1) o2).mono (by simp)))
  have HD := Lib.hid ((Has.new w [.int .i64 d.b, ve, vt] 31).alloc o2)
  have HR := Lib.hid (Has.new (w.alloc o1) [.int .i64 0, .slice none 0 0, .slice none 0 0] 31)
  have HZ := Lib.hid (Size_c _ d _ (h0.keep HB.out))
  have HE := Lib.hid (he.keep HB.out); have HT := Lib.hid (ht.keep HB.out); have HS := Lib.hid (hS.keep HB.out)
  rw [z1, z2] at HB HZ HE HT HS
  rw [z1] at HR
  rw [z2] at HD
  obtain ⟨E, ce, rfl⟩ := he.slice
  obtain ⟨T, ct, rfl⟩ := ht.slice
  obtain ⟨Z, cz, rfl, hmz, -, -⟩ := hS
  have hme := he.len; have hmt := ht.len
  clear h0 z1 z2 o1 o2 he ht
  by_cases hv : vldB d = true
  · rw [szR_yes hv] at HZ
    have HO := Lib.hid (vld_ok hv)
    have HV := Lib.hid hv
    clear hv
    by_cases hl : S.length = d.ex.length
    · have f0 : ((S.length : Int) == (d.ex.length : Int)) = true := by simp; omega
      have f1 : ((S.length : Int) != (d.ex.length : Int)) = false := by simp; omega
      have HL := Lib.hid hl
      clear hl
      rcases ha : S.all okS with _ | _
      · obtain ⟨e1, e2⟩ := cut_no (show cutOk d S = false by unfold cutOk; rw [ha]; simp)
        rw [e1, e2]
        have HA := Lib.hid ha
        clear e1 e2 ha
        go_enter Try.func29, Try.ntmps29
        go_wp2_with fail
        refine HZ.out.mono ?_
        rintro e w1 ⟨rfl, hb⟩
        have HW := Lib.hid (anyWrong_c _ S _ (HS.out.keep hb))
        rw [HA.out] at HW
        have hR1 := HR.out.keep hb
        have HB1 := Lib.hid (bt_ HB.out hb)
        obtain ⟨g1, g2, g3⟩ := (HD.out.keep hb).c3
        simp only [World.size_alloc] at hR1
        have HR1 := Lib.hid hR1
        clear hb hR1
        go_wp2_with fail
        refine HW.out.mono ?_
        rintro e w2 ⟨rfl, hb⟩
        have hR1 := HR1.out.keep hb
        have HR2 := Lib.hid hR1
        have HB2 := Lib.hid (bt_ HB1.out hb)
        obtain ⟨r1, r2, r3⟩ := hR1.c3
        obtain ⟨p1, p2, p3⟩ := hR1.f3
        clear hb hR1 g1 g2 g3
        go_wp2
        exact bodyPost_ret (resD29 _ _ _ _ _ _ _ rfl rfl (HR2.out.set3 _ _ _)) rfl ⟨_, rfl, RD.zero _, ((HB2.out.st (by omega)).st (by omega)).st (by omega)⟩
      · have HOK := Lib.hid (show cutOk d S = true by unfold cutOk; rw [HV.out, ha, decide_eq_true HL.out]; rfl)
        have HA := Lib.hid ha
        clear ha
        obtain ⟨z, hz⟩ : ∃ z, z = pr d.ex := ⟨_, rfl⟩
        rw [← hz] at HZ
        have HPZ := Lib.hid hz
        clear hz
        go_enter Try.func29, Try.ntmps29
        go_wp2_with fail
        refine HZ.out.mono ?_
        rintro e w1 ⟨rfl, hb⟩
        have HW := Lib.hid (anyWrong_c _ S _ (HS.out.keep hb))
        rw [HA.out] at HW
        have hR1 := HR.out.keep hb
        have HB1 := Lib.hid (bt_ HB.out hb)
        obtain ⟨g1, g2, g3⟩ := (HD.out.keep hb).c3
        simp only [World.size_alloc] at hR1
        have HR1 := Lib.hid hR1
        have HD1 := Lib.hid (HD.out.keep hb)
        have HE1 := Lib.hid (HE.out.keep hb); have HT1 := Lib.hid (HT.out.keep hb); have HS1 := Lib.hid (HS.out.keep hb)
        clear hb hR1
        go_wp2_with fail
        refine HW.out.mono ?_
        rintro e w0 ⟨rfl, hb⟩
        obtain ⟨g1, g2, g3⟩ := (HD1.out.keep hb).c3
        have HR0 := Lib.hid (HR1.out.keep hb)
        have HB0 := Lib.hid (bt_ HB1.out hb)
        have HD0 := Lib.hid (HD1.out.keep hb)
        have HE0 := Lib.hid (HE1.out.keep hb); have HT0 := Lib.hid (HT1.out.keep hb); have HS0 := Lib.hid (HS1.out.keep hb)
        have hsz : w.heap.size + 2 ≤ w0.heap.size := by
          have h1 := HR0.out.lt
          omega
        clear hb
        go_wp2_with fail
        go_loopw [42] (CRel d S w0.heap.size w0) (fun x _ => S.length - (intOf x).toNat)
        case atStart =>
          refine ⟨0, ⟨d.b, [], []⟩, none, none, 0, 0, Nat.zero_le _, rfl, cutGo_start d S, Has.new w0 [.int .i64 d.b, .slice none 0 0, .slice none 0 0] 31, TW.nil _ _, Nat.le_refl _, Nat.le_refl _, hfb, fun hp => ?_, box_below _ _, ?_⟩
          · have hv := HV.out
            rw [vld_5 HO.out, decide_eq_false (show ¬ pr d.ex = 0 by omega)] at hv
            simp only [Bool.false_or, Bool.and_eq_true, decide_eq_true_eq] at hv
            have := HO.out.2.2.2
            simp; omega
          · simp
        case round =>
          obtain ⟨k, a, A1, A2, c1, c2, hk, rfl, hgo, hH, hT, hl1, hl2, hfa, hbd, hB, hn⟩ := hrel
          by_cases hlt : k < S.length
          · obtain ⟨b3, o3, c3, s, e3, hs, hfs, m0, m1, m2, m3, m4⟩ := (HS0.out.keep hB).at_ hlt
            obtain ⟨rfl, rfl⟩ : Z = some ⟨b3, o3, none⟩ ∧ cz = c3 := by simpa using e3
            obtain ⟨is, one, lo, hi, st⟩ := s
            dsimp only at hfs m0 m1 m2 m3 m4
            obtain ⟨b4, o4, c4, ev, e4, hev, me⟩ := (HE0.out.keep hB).at_ (k := k) (by have := HL.out; omega)
            obtain ⟨rfl, rfl⟩ : E = some ⟨b4, o4, none⟩ ∧ ce = c4 := by simpa using e4
            obtain ⟨b5, o5, c5, tv, e5, htv, mt⟩ := (HT0.out.keep hB).at_ (k := k) (by have := HL.out; have := HO.out.2.1; omega)
            obtain ⟨rfl, rfl⟩ : T = some ⟨b5, o5, none⟩ ∧ ct = c5 := by simpa using e5
            have hlE : k < d.ex.length := by have := HL.out; omega
            have hlT : k < d.st.length := by have := HL.out; have := HO.out.2.1; omega
            have hok : okS ⟨is, one, lo, hi, st⟩ = true := List.all_eq_true.1 HA.out _ (List.mem_of_getElem? hs)
            have hevb := (okE_iff.1 HO.out.1).2.1 ev (List.mem_of_getElem? hev)
            have htvb := near_iff.1 (List.all_eq_true.1 HO.out.2.2.1 tv (List.mem_of_getElem? htv))
            have hl3 : S.length ≤ 3 := by have := HL.out; have := (okE_iff.1 HO.out.1).1; omega
            have HGO := Lib.hid (hgo.symm.trans (cutGo_step hs hev htv))
            have hHb := hH.alloc (.cells #[.bool is, .int .i64 one, .int .i64 lo, .int .i64 hi, .int .i64 st] 57)
            have hsz57 := box_below wr (.cells #[.bool is, .int .i64 one, .int .i64 lo, .int .i64 hi, .int .i64 st] 57)
            have HRE := Lib.hid (reach_c ⟨is, one, lo, hi, st⟩ (wr.alloc (.cells #[.bool is, .int .i64 one, .int .i64 lo, .int .i64 hi, .int .i64 st] 57)) hok)
            unfold SB.v rcR at HRE
            dsimp only at HRE
            obtain ⟨f, hf⟩ : ∃ f, f = fS ⟨is, one, lo, hi, st⟩ := ⟨_, rfl⟩
            obtain ⟨l, hl⟩ : ∃ l, l = lS ⟨is, one, lo, hi, st⟩ := ⟨_, rfl⟩
            obtain ⟨n, hn'⟩ : ∃ n, n = nS ⟨is, one, lo, hi, st⟩ := ⟨_, rfl⟩
            rw [← hf, ← hl, ← hn'] at HRE
            have HF := Lib.hid hf; have HLL := Lib.hid hl; have HN := Lib.hid hn'; have HOS := Lib.hid hok
            have HH := Lib.hid hH; have HTT := Lib.hid hT; have HBB := Lib.hid hB; have HBD := Lib.hid hbd; have HFA := Lib.hid hfa
            have HEV := Lib.hid hev; have HTV := Lib.hid htv; have HSS := Lib.hid hs
            clear e3 e4 e5 hs hev htv hok hgo hf hl hn' hH hT hB hbd hfa hHb hsz57
            have HCK := Lib.hid (fun (w1 : World) (hb : Below (wr.alloc (.cells #[.bool is, .int .i64 one, .int .i64 lo, .int .i64 hi, .int .i64 st] 57)).heap.size (wr.alloc (.cells #[.bool is, .int .i64 one, .int .i64 lo, .int .i64 hi, .int .i64 st] 57)) w1) =>
              (⟨bt_ (box_below wr (.cells #[.bool is, .int .i64 one, .int .i64 lo, .int .i64 hi, .int .i64 st] 57)) hb, (Has.new wr [.bool is, .int .i64 one, .int .i64 lo, .int .i64 hi, .int .i64 st] 57).keep hb⟩ : Below wr.heap.size wr w1 ∧ Has w1 wr.heap.size [.bool is, .int .i64 one, .int .i64 lo, .int .i64 hi, .int .i64 st]))
            have C1 := Lib.hid (fun w => isSub_c f ev w); have C2 := Lib.hid (fun w => isSub_c l ev w)
            obtain ⟨q1, q2, q3⟩ := HH.out.c3
            by_cases hbad : cutBad ⟨is, one, lo, hi, st⟩ ev = true
            · have HX := Lib.hid (cut_bad HOK.out (HGO.out.trans (by rw [if_pos hbad])))
              have hbb := hbad
              unfold cutBad at hbb
              rw [← HN.out, ← HF.out, ← HLL.out] at hbb
              simp only [Bool.and_eq_true, decide_eq_true_eq, Bool.not_eq_true'] at hbb
              obtain ⟨hn1, hbb⟩ := hbb
              rcases h1 : subB f ev with _ | _
              rotate_left
              · have h2 : subB l ev = false := by rw [h1] at hbb; simpa using hbb
                rw [h1] at C1; rw [h2] at C2
                clear h1 h2 hbb hbad q1 q2 q3
                go_wp2_with fail
                refine HRE.out.mono ?_
                rintro e w1 ⟨rfl, hb⟩
                obtain ⟨hb1, hbx⟩ := HCK.out w1 hb
                have HB1 := Lib.hid (bt_ HB0.out (HBB.out.trans (hb1.mono (by omega))))
                have hd1 := HD0.out.keep (HBB.out.trans (hb1.mono (by omega)))
                have hr1 := HR0.out.keep (HBB.out.trans (hb1.mono (by omega)))
                have me1 := ck hb1 me
                obtain ⟨y1, y2, y3⟩ := hd1.c3
                obtain ⟨r1, r2, r3⟩ := hr1.c3
                obtain ⟨p1, p2, p3⟩ := hr1.f3
                have HR1 := Lib.hid hr1
                clear hb hb1 hbx hd1 hr1
                go_wp2_with (first | (go_at_call 56; first | ((with_reducible refine (C1.out _).mono ?_); rintro e w' ⟨rfl, rfl⟩) | ((with_reducible refine (C2.out _).mono ?_); rintro e w' ⟨rfl, rfl⟩)) | go_in)
                rw [HX.out.1, HX.out.2]
                exact bodyPost_ret (resD29 _ _ _ _ _ _ _ rfl rfl (HR1.out.set3 _ _ _)) rfl ⟨_, rfl, RD.zero _, ((HB1.out.st (by omega)).st (by omega)).st (by omega)⟩
              · rw [h1] at C1
                clear h1 hbb hbad q1 q2 q3
                go_wp2_with fail
                refine HRE.out.mono ?_
                rintro e w1 ⟨rfl, hb⟩
                obtain ⟨hb1, hbx⟩ := HCK.out w1 hb
                have HB1 := Lib.hid (bt_ HB0.out (HBB.out.trans (hb1.mono (by omega))))
                have hd1 := HD0.out.keep (HBB.out.trans (hb1.mono (by omega)))
                have hr1 := HR0.out.keep (HBB.out.trans (hb1.mono (by omega)))
                have me1 := ck hb1 me
                obtain ⟨y1, y2, y3⟩ := hd1.c3
                obtain ⟨r1, r2, r3⟩ := hr1.c3
                obtain ⟨p1, p2, p3⟩ := hr1.f3
                have HR1 := Lib.hid hr1
                clear hb hb1 hbx hd1 hr1
                go_wp2_with (first | (go_at_call 56; ((with_reducible refine (C1.out _).mono ?_); rintro e w' ⟨rfl, rfl⟩)) | go_in)
                rw [HX.out.1, HX.out.2]
                exact bodyPost_ret (resD29 _ _ _ _ _ _ _ rfl rfl (HR1.out.set3 _ _ _)) rfl ⟨_, rfl, RD.zero _, ((HB1.out.st (by omega)).st (by omega)).st (by omega)⟩
            · have hbad' : cutBad ⟨is, one, lo, hi, st⟩ ev = false := by simpa using hbad
              have HG2 := Lib.hid (HGO.out.trans (by rw [if_neg hbad]))
              have hgb := good_bd HOS.out hbad' hevb.1
              rw [← HF.out, ← HN.out] at hgb
              have hft := mul_near (x := f) (y := tv) (by omega) (by omega) (by omega) (by omega)
              have hbb := hbad'
              unfold cutBad at hbb
              rw [← HN.out, ← HF.out, ← HLL.out] at hbb
              have HBG := Lib.hid hbb
              clear hbad hbad' hbb
              have hbd := HBD.out
              have hst : is = false → 1 < n → -2147483648 ≤ st ∧ st ≤ 2147483648 := fun e _ => by
                have := HOS.out; rw [e] at this; simp [okS] at this; exact near_iff.1 (tri_iff.1 this).2.2.1
              have hn1 : is = true → n = 1 := fun e => by rw [HN.out, e]; rfl
              cases is
              · have hst := hst rfl
                clear hn1
                by_cases hz : 0 < pr d.ex
                · have hz1 : 0 < z := by rw [HPZ.out]; omega
                  have hbd := hbd hz
                  by_cases hn0 : 0 < n
                  · have hb12 : subB f ev = true ∧ subB l ev = true := by have := HBG.out; rw [decide_eq_true hn0] at this; simpa using this
                    rw [hb12.1] at C1; rw [hb12.2] at C2
                    clear hb12
                    by_cases hn2 : 1 < n
                    · have hst := hst hn2
                      have hts := mul_far (x := tv) (y := st) (by omega) (by omega) (by omega) (by omega)
                      have HE3 := Lib.hid (show cutStep (decide (0 < pr d.ex)) ⟨false, one, lo, hi, st⟩ tv a = ⟨a.b + f * tv, a.ex ++ [n], a.st ++ [tv * st]⟩ by
                        unfold cutStep
                        rw [if_pos (decide_eq_true hz), ← HF.out, ← HN.out]
                        rw [if_pos (show 1 < n by omega)]
                        rfl)
                      have HG3 := Lib.hid (HG2.out.trans (by rw [HE3.out]))
                      go_wp2_with fail
                      refine HRE.out.mono ?_
                      rintro e w1 ⟨rfl, hb⟩
                      obtain ⟨hb1, hbx⟩ := HCK.out w1 hb
                      have hbw := HBB.out.trans (hb1.mono (show w0.heap.size ≤ wr.heap.size by omega))
                      have hd1 := HD0.out.keep hbw
                      have hH1 := (HH.out.keep hb1)
                      have hT1 := (HTT.out.keep hb1)
                      have me1 := ck hb1 me
                      have mt1 := ck hb1 mt
                      have n1 := hb1.size
                      obtain ⟨y1, y2, y3⟩ := hd1.c3
                      obtain ⟨u1, u2, u3⟩ := hH1.c3
                      obtain ⟨v1, v2, v3⟩ := hH1.f3
                      have x0 := (hbx 0 _ rfl).1
                      have x4 := (hbx 4 _ rfl).1
                      have HBW := Lib.hid hbw; have HH1 := Lib.hid hH1; have HT1 := Lib.hid hT1
                      clear hb hb1 hbx hbw hd1 hH1 hT1 me mt m0 m1 m2 m3 m4 q1 q2 q3
                      have HH2 := Lib.hid (HH1.out.set (i := 0) (v := .int .i64 (a.b + f * tv))); have HT2 := Lib.hid (HT1.out.far (n := w0.heap.size) (i := 0) (x := .int .i64 (a.b + f * tv)) (by omega)); have HBW2 := Lib.hid (HBW.out.st (b := w0.heap.size) (i := 0) (u := .int .i64 (a.b + f * tv)) (Nat.le_refl _))
                      have hz2 : w0.heap.size < ((w1.setCell ⟨w0.heap.size, 0, none⟩ (.int .i64 (a.b + f * tv)))).heap.size := by simp [World.setCell]; omega
                      go_wp2_with (first | (go_at_call 56; first | ((with_reducible refine (C1.out _).mono ?_); rintro e w' ⟨rfl, rfl⟩) | ((with_reducible refine (C2.out _).mono ?_); rintro e w' ⟨rfl, rfl⟩)) | (at_builtin; refine wpList_app rfl _ _ rfl (w0.heap.size + 1) _ _ a.ex [n] rfl (HT2.out.alloc _).1 rfl (RI.oneN _ n _ (by unfold Fit; omega) 3 (by simp [World.setCell])) (by simp; omega) (by simp [World.setCell]; omega) ?_))
                      intro v' w' h1 h2 h3
                      obtain ⟨A', c', rfl⟩ := h1.slice (n := a.ex.length + 1) (by simp)
                      have hne : ∀ g, (Value.slice A1 a.ex.length c1).ownBlock = some g → w0.heap.size + 1 ≤ g := fun g hg => (HT2.out.1.lt g hg).1
                      have hH3 := (HH2.out.alloc (.cells #[.int .i64 n] 3)).grown h2 (fun g hg => by have := hne g hg; omega)
                      have HT3 := Lib.hid ((HT2.out.alloc (.cells #[.int .i64 n] 3)).app h1 h2 (by simpa [World.setCell] using h3))
                      have HBW3 := Lib.hid ((HBW2.out.alloc (by omega) (.cells #[.int .i64 n] 3)).grown h2 (by simp; omega) (fun g hg => by have := hne g hg; omega))
                      have hz3 : w0.heap.size < w'.heap.size := by have := h2.size; simp [World.setCell] at this; omega
                      have HH3 := Lib.hid hH3
                      obtain ⟨u1, u2, u3⟩ := hH3.c3
                      obtain ⟨v1, v2, v3⟩ := hH3.f3
                      clear h1 h2 h3 hne hH3 y1 y2 y3 x0 x4 me1 mt1
                      have HT4 := Lib.hid ((HT3.out.far (n := w0.heap.size) (i := 1) (x := .slice A' (a.ex.length + 1) c') (by omega)).alloc (.cells #[.int .i64 (tv * st)] 3))
                      go_wp2_with (at_builtin; refine wpList_app rfl _ _ rfl (w0.heap.size + 1) _ _ a.st [tv * st] rfl HT4.out.2.1 rfl (RI.oneN _ (tv * st) _ (by unfold Fit; omega) 3 (by simp [World.setCell])) (by simp; omega) (by simp [World.setCell]; omega) ?_)
                      intro v2' w2 h1 h2 h3
                      obtain ⟨A2', c2', rfl⟩ := h1.slice (n := a.st.length + 1) (by simp)
                      have hne : ∀ g, (Value.slice A2 a.st.length c2).ownBlock = some g → w0.heap.size + 1 ≤ g := fun g hg => (HT4.out.2.1.lt g hg).1
                      have hH5 := ((HH3.out.set (i := 1) (v := .slice A' (a.ex.length + 1) c')).alloc (.cells #[.int .i64 (tv * st)] 3)).grown h2 (fun g hg => by have := hne g hg; omega)
                      have HT5 := Lib.hid (HT4.out.swap.app h1 h2 (by simpa [World.setCell] using h3)).swap
                      have HBW5 := Lib.hid (((HBW3.out.st (b := w0.heap.size) (i := 1) (u := .slice A' (a.ex.length + 1) c') (Nat.le_refl _)).alloc (by simp [World.setCell]; omega) (.cells #[.int .i64 (tv * st)] 3)).grown h2 (by simp [World.setCell]; omega) (fun g hg => by have := hne g hg; omega))
                      have hz5 : w0.heap.size < w2.heap.size := by have := h2.size; simp [World.setCell] at this; omega
                      have HH5 := Lib.hid hH5
                      obtain ⟨u1, u2, u3⟩ := hH5.c3
                      obtain ⟨v1, v2, v3⟩ := hH5.f3
                      clear h1 h2 h3 hne hH5
                      go_wp2
                      go_roundw
                      case rel => exact ⟨k + 1, ⟨a.b + f * tv, a.ex ++ [n], a.st ++ [tv * st]⟩, A', A2', c', c2', by omega, by go_num, HG3.out.symm, by simp only [List.length_append, List.length_cons, List.length_nil, Nat.zero_add]; exact HH5.out.set (i := 2), by simp only [List.length_append, List.length_cons, List.length_nil, Nat.zero_add]; exact HT5.out.far (by omega), by simp only [List.length_append, List.length_cons, List.length_nil, Nat.zero_add]; omega, by simp only [List.length_append, List.length_cons, List.length_nil, Nat.zero_add]; omega, (show Fit (a.b + f * tv) by unfold Fit; omega), fun _ => (show -((k + 1 : Nat) : Int) * 8589934592000 ≤ a.b + f * tv ∧ a.b + f * tv ≤ 2147483648 + ((k + 1 : Nat) : Int) * 8589934592000 by omega), HBW5.out.st (Nat.le_refl _), by simp [World.setCell]; omega⟩
                      case measure => simp [intOf]; omega
                    · clear hst
                      have HE3 := Lib.hid (show cutStep (decide (0 < pr d.ex)) ⟨false, one, lo, hi, st⟩ tv a = ⟨a.b + f * tv, a.ex ++ [n], a.st ++ [tv]⟩ by
                        unfold cutStep
                        rw [if_pos (decide_eq_true hz), ← HF.out, ← HN.out]
                        rw [if_neg (show ¬ 1 < n by omega)]
                        rfl)
                      have HG3 := Lib.hid (HG2.out.trans (by rw [HE3.out]))
                      go_wp2_with fail
                      refine HRE.out.mono ?_
                      rintro e w1 ⟨rfl, hb⟩
                      obtain ⟨hb1, hbx⟩ := HCK.out w1 hb
                      have hbw := HBB.out.trans (hb1.mono (show w0.heap.size ≤ wr.heap.size by omega))
                      have hd1 := HD0.out.keep hbw
                      have hH1 := (HH.out.keep hb1)
                      have hT1 := (HTT.out.keep hb1)
                      have me1 := ck hb1 me
                      have mt1 := ck hb1 mt
                      have n1 := hb1.size
                      obtain ⟨y1, y2, y3⟩ := hd1.c3
                      obtain ⟨u1, u2, u3⟩ := hH1.c3
                      obtain ⟨v1, v2, v3⟩ := hH1.f3
                      have x0 := (hbx 0 _ rfl).1
                      have x4 := (hbx 4 _ rfl).1
                      have HBW := Lib.hid hbw; have HH1 := Lib.hid hH1; have HT1 := Lib.hid hT1
                      clear hb hb1 hbx hbw hd1 hH1 hT1 me mt m0 m1 m2 m3 m4 q1 q2 q3
                      have HH2 := Lib.hid (HH1.out.set (i := 0) (v := .int .i64 (a.b + f * tv))); have HT2 := Lib.hid (HT1.out.far (n := w0.heap.size) (i := 0) (x := .int .i64 (a.b + f * tv)) (by omega)); have HBW2 := Lib.hid (HBW.out.st (b := w0.heap.size) (i := 0) (u := .int .i64 (a.b + f * tv)) (Nat.le_refl _))
                      have hz2 : w0.heap.size < ((w1.setCell ⟨w0.heap.size, 0, none⟩ (.int .i64 (a.b + f * tv)))).heap.size := by simp [World.setCell]; omega
                      go_wp2_with (first | (go_at_call 56; first | ((with_reducible refine (C1.out _).mono ?_); rintro e w' ⟨rfl, rfl⟩) | ((with_reducible refine (C2.out _).mono ?_); rintro e w' ⟨rfl, rfl⟩)) | (at_builtin; refine wpList_app rfl _ _ rfl (w0.heap.size + 1) _ _ a.ex [n] rfl (HT2.out.alloc _).1 rfl (RI.oneN _ n _ (by unfold Fit; omega) 3 (by simp [World.setCell])) (by simp; omega) (by simp [World.setCell]; omega) ?_))
                      intro v' w' h1 h2 h3
                      obtain ⟨A', c', rfl⟩ := h1.slice (n := a.ex.length + 1) (by simp)
                      have hne : ∀ g, (Value.slice A1 a.ex.length c1).ownBlock = some g → w0.heap.size + 1 ≤ g := fun g hg => (HT2.out.1.lt g hg).1
                      have hH3 := (HH2.out.alloc (.cells #[.int .i64 n] 3)).grown h2 (fun g hg => by have := hne g hg; omega)
                      have HT3 := Lib.hid ((HT2.out.alloc (.cells #[.int .i64 n] 3)).app h1 h2 (by simpa [World.setCell] using h3))
                      have HBW3 := Lib.hid ((HBW2.out.alloc (by omega) (.cells #[.int .i64 n] 3)).grown h2 (by simp; omega) (fun g hg => by have := hne g hg; omega))
                      have hz3 : w0.heap.size < w'.heap.size := by have := h2.size; simp [World.setCell] at this; omega
                      have HH3 := Lib.hid hH3
                      obtain ⟨u1, u2, u3⟩ := hH3.c3
                      obtain ⟨v1, v2, v3⟩ := hH3.f3
                      clear h1 h2 h3 hne hH3 y1 y2 y3 x0 x4 me1 mt1
                      have HT4 := Lib.hid ((HT3.out.far (n := w0.heap.size) (i := 1) (x := .slice A' (a.ex.length + 1) c') (by omega)).alloc (.cells #[.int .i64 (tv)] 3))
                      go_wp2_with (at_builtin; refine wpList_app rfl _ _ rfl (w0.heap.size + 1) _ _ a.st [tv] rfl HT4.out.2.1 rfl (RI.oneN _ (tv) _ (by unfold Fit; omega) 3 (by simp [World.setCell])) (by simp; omega) (by simp [World.setCell]; omega) ?_)
                      intro v2' w2 h1 h2 h3
                      obtain ⟨A2', c2', rfl⟩ := h1.slice (n := a.st.length + 1) (by simp)
                      have hne : ∀ g, (Value.slice A2 a.st.length c2).ownBlock = some g → w0.heap.size + 1 ≤ g := fun g hg => (HT4.out.2.1.lt g hg).1
                      have hH5 := ((HH3.out.set (i := 1) (v := .slice A' (a.ex.length + 1) c')).alloc (.cells #[.int .i64 (tv)] 3)).grown h2 (fun g hg => by have := hne g hg; omega)
                      have HT5 := Lib.hid (HT4.out.swap.app h1 h2 (by simpa [World.setCell] using h3)).swap
                      have HBW5 := Lib.hid (((HBW3.out.st (b := w0.heap.size) (i := 1) (u := .slice A' (a.ex.length + 1) c') (Nat.le_refl _)).alloc (by simp [World.setCell]; omega) (.cells #[.int .i64 (tv)] 3)).grown h2 (by simp [World.setCell]; omega) (fun g hg => by have := hne g hg; omega))
                      have hz5 : w0.heap.size < w2.heap.size := by have := h2.size; simp [World.setCell] at this; omega
                      have HH5 := Lib.hid hH5
                      obtain ⟨u1, u2, u3⟩ := hH5.c3
                      obtain ⟨v1, v2, v3⟩ := hH5.f3
                      clear h1 h2 h3 hne hH5
                      go_wp2
                      go_roundw
                      case rel => exact ⟨k + 1, ⟨a.b + f * tv, a.ex ++ [n], a.st ++ [tv]⟩, A', A2', c', c2', by omega, by go_num, HG3.out.symm, by simp only [List.length_append, List.length_cons, List.length_nil, Nat.zero_add]; exact HH5.out.set (i := 2), by simp only [List.length_append, List.length_cons, List.length_nil, Nat.zero_add]; exact HT5.out.far (by omega), by simp only [List.length_append, List.length_cons, List.length_nil, Nat.zero_add]; omega, by simp only [List.length_append, List.length_cons, List.length_nil, Nat.zero_add]; omega, (show Fit (a.b + f * tv) by unfold Fit; omega), fun _ => (show -((k + 1 : Nat) : Int) * 8589934592000 ≤ a.b + f * tv ∧ a.b + f * tv ≤ 2147483648 + ((k + 1 : Nat) : Int) * 8589934592000 by omega), HBW5.out.st (Nat.le_refl _), by simp [World.setCell]; omega⟩
                      case measure => simp [intOf]; omega
                  · clear hst
                    have hn2 : ¬ 1 < n := by omega
                    have HE3 := Lib.hid (show cutStep (decide (0 < pr d.ex)) ⟨false, one, lo, hi, st⟩ tv a = ⟨a.b + f * tv, a.ex ++ [n], a.st ++ [tv]⟩ by
                      unfold cutStep
                      rw [if_pos (decide_eq_true hz), ← HF.out, ← HN.out]
                      rw [if_neg (show ¬ 1 < n by omega)]
                      rfl)
                    have HG3 := Lib.hid (HG2.out.trans (by rw [HE3.out]))
                    go_wp2_with fail
                    refine HRE.out.mono ?_
                    rintro e w1 ⟨rfl, hb⟩
                    obtain ⟨hb1, hbx⟩ := HCK.out w1 hb
                    have hbw := HBB.out.trans (hb1.mono (show w0.heap.size ≤ wr.heap.size by omega))
                    have hd1 := HD0.out.keep hbw
                    have hH1 := (HH.out.keep hb1)
                    have hT1 := (HTT.out.keep hb1)
                    have me1 := ck hb1 me
                    have mt1 := ck hb1 mt
                    have n1 := hb1.size
                    obtain ⟨y1, y2, y3⟩ := hd1.c3
                    obtain ⟨u1, u2, u3⟩ := hH1.c3
                    obtain ⟨v1, v2, v3⟩ := hH1.f3
                    have x0 := (hbx 0 _ rfl).1
                    have x4 := (hbx 4 _ rfl).1
                    have HBW := Lib.hid hbw; have HH1 := Lib.hid hH1; have HT1 := Lib.hid hT1
                    clear hb hb1 hbx hbw hd1 hH1 hT1 me mt m0 m1 m2 m3 m4 q1 q2 q3
                    have HH2 := Lib.hid (HH1.out.set (i := 0) (v := .int .i64 (a.b + f * tv))); have HT2 := Lib.hid (HT1.out.far (n := w0.heap.size) (i := 0) (x := .int .i64 (a.b + f * tv)) (by omega)); have HBW2 := Lib.hid (HBW.out.st (b := w0.heap.size) (i := 0) (u := .int .i64 (a.b + f * tv)) (Nat.le_refl _))
                    have hz2 : w0.heap.size < ((w1.setCell ⟨w0.heap.size, 0, none⟩ (.int .i64 (a.b + f * tv)))).heap.size := by simp [World.setCell]; omega
                    go_wp2_with (first | (go_at_call 56; first | ((with_reducible refine (C1.out _).mono ?_); rintro e w' ⟨rfl, rfl⟩) | ((with_reducible refine (C2.out _).mono ?_); rintro e w' ⟨rfl, rfl⟩)) | (at_builtin; refine wpList_app rfl _ _ rfl (w0.heap.size + 1) _ _ a.ex [n] rfl (HT2.out.alloc _).1 rfl (RI.oneN _ n _ (by unfold Fit; omega) 3 (by simp [World.setCell])) (by simp; omega) (by simp [World.setCell]; omega) ?_))
                    intro v' w' h1 h2 h3
                    obtain ⟨A', c', rfl⟩ := h1.slice (n := a.ex.length + 1) (by simp)
                    have hne : ∀ g, (Value.slice A1 a.ex.length c1).ownBlock = some g → w0.heap.size + 1 ≤ g := fun g hg => (HT2.out.1.lt g hg).1
                    have hH3 := (HH2.out.alloc (.cells #[.int .i64 n] 3)).grown h2 (fun g hg => by have := hne g hg; omega)
                    have HT3 := Lib.hid ((HT2.out.alloc (.cells #[.int .i64 n] 3)).app h1 h2 (by simpa [World.setCell] using h3))
                    have HBW3 := Lib.hid ((HBW2.out.alloc (by omega) (.cells #[.int .i64 n] 3)).grown h2 (by simp; omega) (fun g hg => by have := hne g hg; omega))
                    have hz3 : w0.heap.size < w'.heap.size := by have := h2.size; simp [World.setCell] at this; omega
                    have HH3 := Lib.hid hH3
                    obtain ⟨u1, u2, u3⟩ := hH3.c3
                    obtain ⟨v1, v2, v3⟩ := hH3.f3
                    clear h1 h2 h3 hne hH3 y1 y2 y3 x0 x4 me1 mt1
                    have HT4 := Lib.hid ((HT3.out.far (n := w0.heap.size) (i := 1) (x := .slice A' (a.ex.length + 1) c') (by omega)).alloc (.cells #[.int .i64 (tv)] 3))
                    go_wp2_with (at_builtin; refine wpList_app rfl _ _ rfl (w0.heap.size + 1) _ _ a.st [tv] rfl HT4.out.2.1 rfl (RI.oneN _ (tv) _ (by unfold Fit; omega) 3 (by simp [World.setCell])) (by simp; omega) (by simp [World.setCell]; omega) ?_)
                    intro v2' w2 h1 h2 h3
                    obtain ⟨A2', c2', rfl⟩ := h1.slice (n := a.st.length + 1) (by simp)
                    have hne : ∀ g, (Value.slice A2 a.st.length c2).ownBlock = some g → w0.heap.size + 1 ≤ g := fun g hg => (HT4.out.2.1.lt g hg).1
                    have hH5 := ((HH3.out.set (i := 1) (v := .slice A' (a.ex.length + 1) c')).alloc (.cells #[.int .i64 (tv)] 3)).grown h2 (fun g hg => by have := hne g hg; omega)
                    have HT5 := Lib.hid (HT4.out.swap.app h1 h2 (by simpa [World.setCell] using h3)).swap
                    have HBW5 := Lib.hid (((HBW3.out.st (b := w0.heap.size) (i := 1) (u := .slice A' (a.ex.length + 1) c') (Nat.le_refl _)).alloc (by simp [World.setCell]; omega) (.cells #[.int .i64 (tv)] 3)).grown h2 (by simp [World.setCell]; omega) (fun g hg => by have := hne g hg; omega))
                    have hz5 : w0.heap.size < w2.heap.size := by have := h2.size; simp [World.setCell] at this; omega
                    have HH5 := Lib.hid hH5
                    obtain ⟨u1, u2, u3⟩ := hH5.c3
                    obtain ⟨v1, v2, v3⟩ := hH5.f3
                    clear h1 h2 h3 hne hH5
                    go_wp2
                    go_roundw
                    case rel => exact ⟨k + 1, ⟨a.b + f * tv, a.ex ++ [n], a.st ++ [tv]⟩, A', A2', c', c2', by omega, by go_num, HG3.out.symm, by simp only [List.length_append, List.length_cons, List.length_nil, Nat.zero_add]; exact HH5.out.set (i := 2), by simp only [List.length_append, List.length_cons, List.length_nil, Nat.zero_add]; exact HT5.out.far (by omega), by simp only [List.length_append, List.length_cons, List.length_nil, Nat.zero_add]; omega, by simp only [List.length_append, List.length_cons, List.length_nil, Nat.zero_add]; omega, (show Fit (a.b + f * tv) by unfold Fit; omega), fun _ => (show -((k + 1 : Nat) : Int) * 8589934592000 ≤ a.b + f * tv ∧ a.b + f * tv ≤ 2147483648 + ((k + 1 : Nat) : Int) * 8589934592000 by omega), HBW5.out.st (Nat.le_refl _), by simp [World.setCell]; omega⟩
                    case measure => simp [intOf]; omega
                · have hz1 : ¬ 0 < z := by rw [HPZ.out]; omega
                  clear hbd
                  by_cases hn0 : 0 < n
                  · have hb12 : subB f ev = true ∧ subB l ev = true := by have := HBG.out; rw [decide_eq_true hn0] at this; simpa using this
                    rw [hb12.1] at C1; rw [hb12.2] at C2
                    clear hb12
                    by_cases hn2 : 1 < n
                    · have hst := hst hn2
                      have hts := mul_far (x := tv) (y := st) (by omega) (by omega) (by omega) (by omega)
                      have HE3 := Lib.hid (show cutStep (decide (0 < pr d.ex)) ⟨false, one, lo, hi, st⟩ tv a = ⟨a.b, a.ex ++ [n], a.st ++ [tv * st]⟩ by
                        unfold cutStep
                        rw [if_neg (by simpa using hz), ← HN.out]
                        rw [if_pos (show 1 < n by omega)]
                        rfl)
                      have HG3 := Lib.hid (HG2.out.trans (by rw [HE3.out]))
                      go_wp2_with fail
                      refine HRE.out.mono ?_
                      rintro e w1 ⟨rfl, hb⟩
                      obtain ⟨hb1, hbx⟩ := HCK.out w1 hb
                      have hbw := HBB.out.trans (hb1.mono (show w0.heap.size ≤ wr.heap.size by omega))
                      have hd1 := HD0.out.keep hbw
                      have hH1 := (HH.out.keep hb1)
                      have hT1 := (HTT.out.keep hb1)
                      have me1 := ck hb1 me
                      have mt1 := ck hb1 mt
                      have n1 := hb1.size
                      obtain ⟨y1, y2, y3⟩ := hd1.c3
                      obtain ⟨u1, u2, u3⟩ := hH1.c3
                      obtain ⟨v1, v2, v3⟩ := hH1.f3
                      have x0 := (hbx 0 _ rfl).1
                      have x4 := (hbx 4 _ rfl).1
                      have HBW := Lib.hid hbw; have HH1 := Lib.hid hH1; have HT1 := Lib.hid hT1
                      clear hb hb1 hbx hbw hd1 hH1 hT1 me mt m0 m1 m2 m3 m4 q1 q2 q3
                      have HH2 := HH1; have HT2 := HT1; have HBW2 := HBW
                      have hz2 : w0.heap.size < w1.heap.size := by omega
                      go_wp2_with (first | (go_at_call 56; first | ((with_reducible refine (C1.out _).mono ?_); rintro e w' ⟨rfl, rfl⟩) | ((with_reducible refine (C2.out _).mono ?_); rintro e w' ⟨rfl, rfl⟩)) | (at_builtin; refine wpList_app rfl _ _ rfl (w0.heap.size + 1) _ _ a.ex [n] rfl (HT2.out.alloc _).1 rfl (RI.oneN _ n _ (by unfold Fit; omega) 3 (by simp)) (by simp; omega) (by simp; omega) ?_))
                      intro v' w' h1 h2 h3
                      obtain ⟨A', c', rfl⟩ := h1.slice (n := a.ex.length + 1) (by simp)
                      have hne : ∀ g, (Value.slice A1 a.ex.length c1).ownBlock = some g → w0.heap.size + 1 ≤ g := fun g hg => (HT2.out.1.lt g hg).1
                      have hH3 := (HH2.out.alloc (.cells #[.int .i64 n] 3)).grown h2 (fun g hg => by have := hne g hg; omega)
                      have HT3 := Lib.hid ((HT2.out.alloc (.cells #[.int .i64 n] 3)).app h1 h2 (by simpa [World.setCell] using h3))
                      have HBW3 := Lib.hid ((HBW2.out.alloc (by omega) (.cells #[.int .i64 n] 3)).grown h2 (by simp; omega) (fun g hg => by have := hne g hg; omega))
                      have hz3 : w0.heap.size < w'.heap.size := by have := h2.size; simp [] at this; omega
                      have HH3 := Lib.hid hH3
                      obtain ⟨u1, u2, u3⟩ := hH3.c3
                      obtain ⟨v1, v2, v3⟩ := hH3.f3
                      clear h1 h2 h3 hne hH3 y1 y2 y3 x0 x4 me1 mt1
                      have HT4 := Lib.hid ((HT3.out.far (n := w0.heap.size) (i := 1) (x := .slice A' (a.ex.length + 1) c') (by omega)).alloc (.cells #[.int .i64 (tv * st)] 3))
                      go_wp2_with (at_builtin; refine wpList_app rfl _ _ rfl (w0.heap.size + 1) _ _ a.st [tv * st] rfl HT4.out.2.1 rfl (RI.oneN _ (tv * st) _ (by unfold Fit; omega) 3 (by simp [World.setCell])) (by simp; omega) (by simp [World.setCell]; omega) ?_)
                      intro v2' w2 h1 h2 h3
                      obtain ⟨A2', c2', rfl⟩ := h1.slice (n := a.st.length + 1) (by simp)
                      have hne : ∀ g, (Value.slice A2 a.st.length c2).ownBlock = some g → w0.heap.size + 1 ≤ g := fun g hg => (HT4.out.2.1.lt g hg).1
                      have hH5 := ((HH3.out.set (i := 1) (v := .slice A' (a.ex.length + 1) c')).alloc (.cells #[.int .i64 (tv * st)] 3)).grown h2 (fun g hg => by have := hne g hg; omega)
                      have HT5 := Lib.hid (HT4.out.swap.app h1 h2 (by simpa [World.setCell] using h3)).swap
                      have HBW5 := Lib.hid (((HBW3.out.st (b := w0.heap.size) (i := 1) (u := .slice A' (a.ex.length + 1) c') (Nat.le_refl _)).alloc (by simp [World.setCell]; omega) (.cells #[.int .i64 (tv * st)] 3)).grown h2 (by simp [World.setCell]; omega) (fun g hg => by have := hne g hg; omega))
                      have hz5 : w0.heap.size < w2.heap.size := by have := h2.size; simp [World.setCell] at this; omega
                      have HH5 := Lib.hid hH5
                      obtain ⟨u1, u2, u3⟩ := hH5.c3
                      obtain ⟨v1, v2, v3⟩ := hH5.f3
                      clear h1 h2 h3 hne hH5
                      go_wp2
                      go_roundw
                      case rel => exact ⟨k + 1, ⟨a.b, a.ex ++ [n], a.st ++ [tv * st]⟩, A', A2', c', c2', by omega, by go_num, HG3.out.symm, by simp only [List.length_append, List.length_cons, List.length_nil, Nat.zero_add]; exact HH5.out.set (i := 2), by simp only [List.length_append, List.length_cons, List.length_nil, Nat.zero_add]; exact HT5.out.far (by omega), by simp only [List.length_append, List.length_cons, List.length_nil, Nat.zero_add]; omega, by simp only [List.length_append, List.length_cons, List.length_nil, Nat.zero_add]; omega, HFA.out, fun h => absurd (show 0 < pr d.ex from h) (by rw [← HPZ.out]; omega), HBW5.out.st (Nat.le_refl _), by simp [World.setCell]; omega⟩
                      case measure => simp [intOf]; omega
                    · clear hst
                      have HE3 := Lib.hid (show cutStep (decide (0 < pr d.ex)) ⟨false, one, lo, hi, st⟩ tv a = ⟨a.b, a.ex ++ [n], a.st ++ [tv]⟩ by
                        unfold cutStep
                        rw [if_neg (by simpa using hz), ← HN.out]
                        rw [if_neg (show ¬ 1 < n by omega)]
                        rfl)
                      have HG3 := Lib.hid (HG2.out.trans (by rw [HE3.out]))
                      go_wp2_with fail
                      refine HRE.out.mono ?_
                      rintro e w1 ⟨rfl, hb⟩
                      obtain ⟨hb1, hbx⟩ := HCK.out w1 hb
                      have hbw := HBB.out.trans (hb1.mono (show w0.heap.size ≤ wr.heap.size by omega))
                      have hd1 := HD0.out.keep hbw
                      have hH1 := (HH.out.keep hb1)
                      have hT1 := (HTT.out.keep hb1)
                      have me1 := ck hb1 me
                      have mt1 := ck hb1 mt
                      have n1 := hb1.size
                      obtain ⟨y1, y2, y3⟩ := hd1.c3
                      obtain ⟨u1, u2, u3⟩ := hH1.c3
                      obtain ⟨v1, v2, v3⟩ := hH1.f3
                      have x0 := (hbx 0 _ rfl).1
                      have x4 := (hbx 4 _ rfl).1
                      have HBW := Lib.hid hbw; have HH1 := Lib.hid hH1; have HT1 := Lib.hid hT1
                      clear hb hb1 hbx hbw hd1 hH1 hT1 me mt m0 m1 m2 m3 m4 q1 q2 q3
                      have HH2 := HH1; have HT2 := HT1; have HBW2 := HBW
                      have hz2 : w0.heap.size < w1.heap.size := by omega
                      go_wp2_with (first | (go_at_call 56; first | ((with_reducible refine (C1.out _).mono ?_); rintro e w' ⟨rfl, rfl⟩) | ((with_reducible refine (C2.out _).mono ?_); rintro e w' ⟨rfl, rfl⟩)) | (at_builtin; refine wpList_app rfl _ _ rfl (w0.heap.size + 1) _ _ a.ex [n] rfl (HT2.out.alloc _).1 rfl (RI.oneN _ n _ (by unfold Fit; omega) 3 (by simp)) (by simp; omega) (by simp; omega) ?_))
                      intro v' w' h1 h2 h3
                      obtain ⟨A', c', rfl⟩ := h1.slice (n := a.ex.length + 1) (by simp)
                      have hne : ∀ g, (Value.slice A1 a.ex.length c1).ownBlock = some g → w0.heap.size + 1 ≤ g := fun g hg => (HT2.out.1.lt g hg).1
                      have hH3 := (HH2.out.alloc (.cells #[.int .i64 n] 3)).grown h2 (fun g hg => by have := hne g hg; omega)
                      have HT3 := Lib.hid ((HT2.out.alloc (.cells #[.int .i64 n] 3)).app h1 h2 (by simpa [World.setCell] using h3))
                      have HBW3 := Lib.hid ((HBW2.out.alloc (by omega) (.cells #[.int .i64 n] 3)).grown h2 (by simp; omega) (fun g hg => by have := hne g hg; omega))
                      have hz3 : w0.heap.size < w'.heap.size := by have := h2.size; simp [] at this; omega
                      have HH3 := Lib.hid hH3
                      obtain ⟨u1, u2, u3⟩ := hH3.c3
                      obtain ⟨v1, v2, v3⟩ := hH3.f3
                      clear h1 h2 h3 hne hH3 y1 y2 y3 x0 x4 me1 mt1
                      have HT4 := Lib.hid ((HT3.out.far (n := w0.heap.size) (i := 1) (x := .slice A' (a.ex.length + 1) c') (by omega)).alloc (.cells #[.int .i64 (tv)] 3))
                      go_wp2_with (at_builtin; refine wpList_app rfl _ _ rfl (w0.heap.size + 1) _ _ a.st [tv] rfl HT4.out.2.1 rfl (RI.oneN _ (tv) _ (by unfold Fit; omega) 3 (by simp [World.setCell])) (by simp; omega) (by simp [World.setCell]; omega) ?_)
                      intro v2' w2 h1 h2 h3
                      obtain ⟨A2', c2', rfl⟩ := h1.slice (n := a.st.length + 1) (by simp)
                      have hne : ∀ g, (Value.slice A2 a.st.length c2).ownBlock = some g → w0.heap.size + 1 ≤ g := fun g hg => (HT4.out.2.1.lt g hg).1
                      have hH5 := ((HH3.out.set (i := 1) (v := .slice A' (a.ex.length + 1) c')).alloc (.cells #[.int .i64 (tv)] 3)).grown h2 (fun g hg => by have := hne g hg; omega)
                      have HT5 := Lib.hid (HT4.out.swap.app h1 h2 (by simpa [World.setCell] using h3)).swap
                      have HBW5 := Lib.hid (((HBW3.out.st (b := w0.heap.size) (i := 1) (u := .slice A' (a.ex.length + 1) c') (Nat.le_refl _)).alloc (by simp [World.setCell]; omega) (.cells #[.int .i64 (tv)] 3)).grown h2 (by simp [World.setCell]; omega) (fun g hg => by have := hne g hg; omega))
                      have hz5 : w0.heap.size < w2.heap.size := by have := h2.size; simp [World.setCell] at this; omega
                      have HH5 := Lib.hid hH5
                      obtain ⟨u1, u2, u3⟩ := hH5.c3
                      obtain ⟨v1, v2, v3⟩ := hH5.f3
                      clear h1 h2 h3 hne hH5
                      go_wp2
                      go_roundw
                      case rel => exact ⟨k + 1, ⟨a.b, a.ex ++ [n], a.st ++ [tv]⟩, A', A2', c', c2', by omega, by go_num, HG3.out.symm, by simp only [List.length_append, List.length_cons, List.length_nil, Nat.zero_add]; exact HH5.out.set (i := 2), by simp only [List.length_append, List.length_cons, List.length_nil, Nat.zero_add]; exact HT5.out.far (by omega), by simp only [List.length_append, List.length_cons, List.length_nil, Nat.zero_add]; omega, by simp only [List.length_append, List.length_cons, List.length_nil, Nat.zero_add]; omega, HFA.out, fun h => absurd (show 0 < pr d.ex from h) (by rw [← HPZ.out]; omega), HBW5.out.st (Nat.le_refl _), by simp [World.setCell]; omega⟩
                      case measure => simp [intOf]; omega
                  · clear hst
                    have hn2 : ¬ 1 < n := by omega
                    have HE3 := Lib.hid (show cutStep (decide (0 < pr d.ex)) ⟨false, one, lo, hi, st⟩ tv a = ⟨a.b, a.ex ++ [n], a.st ++ [tv]⟩ by
                      unfold cutStep
                      rw [if_neg (by simpa using hz), ← HN.out]
                      rw [if_neg (show ¬ 1 < n by omega)]
                      rfl)
                    have HG3 := Lib.hid (HG2.out.trans (by rw [HE3.out]))
                    go_wp2_with fail
                    refine HRE.out.mono ?_
                    rintro e w1 ⟨rfl, hb⟩
                    obtain ⟨hb1, hbx⟩ := HCK.out w1 hb
                    have hbw := HBB.out.trans (hb1.mono (show w0.heap.size ≤ wr.heap.size by omega))
                    have hd1 := HD0.out.keep hbw
                    have hH1 := (HH.out.keep hb1)
                    have hT1 := (HTT.out.keep hb1)
                    have me1 := ck hb1 me
                    have mt1 := ck hb1 mt
                    have n1 := hb1.size
                    obtain ⟨y1, y2, y3⟩ := hd1.c3
                    obtain ⟨u1, u2, u3⟩ := hH1.c3
                    obtain ⟨v1, v2, v3⟩ := hH1.f3
                    have x0 := (hbx 0 _ rfl).1
                    have x4 := (hbx 4 _ rfl).1
                    have HBW := Lib.hid hbw; have HH1 := Lib.hid hH1; have HT1 := Lib.hid hT1
                    clear hb hb1 hbx hbw hd1 hH1 hT1 me mt m0 m1 m2 m3 m4 q1 q2 q3
                    have HH2 := HH1; have HT2 := HT1; have HBW2 := HBW
                    have hz2 : w0.heap.size < w1.heap.size := by omega
                    go_wp2_with (first | (go_at_call 56; first | ((with_reducible refine (C1.out _).mono ?_); rintro e w' ⟨rfl, rfl⟩) | ((with_reducible refine (C2.out _).mono ?_); rintro e w' ⟨rfl, rfl⟩)) | (at_builtin; refine wpList_app rfl _ _ rfl (w0.heap.size + 1) _ _ a.ex [n] rfl (HT2.out.alloc _).1 rfl (RI.oneN _ n _ (by unfold Fit; omega) 3 (by simp)) (by simp; omega) (by simp; omega) ?_))
                    intro v' w' h1 h2 h3
                    obtain ⟨A', c', rfl⟩ := h1.slice (n := a.ex.length + 1) (by simp)
                    have hne : ∀ g, (Value.slice A1 a.ex.length c1).ownBlock = some g → w0.heap.size + 1 ≤ g := fun g hg => (HT2.out.1.lt g hg).1
                    have hH3 := (HH2.out.alloc (.cells #[.int .i64 n] 3)).grown h2 (fun g hg => by have := hne g hg; omega)
                    have HT3 := Lib.hid ((HT2.out.alloc (.cells #[.int .i64 n] 3)).app h1 h2 (by simpa [World.setCell] using h3))
                    have HBW3 := Lib.hid ((HBW2.out.alloc (by omega) (.cells #[.int .i64 n] 3)).grown h2 (by simp; omega) (fun g hg => by have := hne g hg; omega))
                    have hz3 : w0.heap.size < w'.heap.size := by have := h2.size; simp [] at this; omega
                    have HH3 := Lib.hid hH3
                    obtain ⟨u1, u2, u3⟩ := hH3.c3
                    obtain ⟨v1, v2, v3⟩ := hH3.f3
                    clear h1 h2 h3 hne hH3 y1 y2 y3 x0 x4 me1 mt1
                    have HT4 := Lib.hid ((HT3.out.far (n := w0.heap.size) (i := 1) (x := .slice A' (a.ex.length + 1) c') (by omega)).alloc (.cells #[.int .i64 (tv)] 3))
                    go_wp2_with (at_builtin; refine wpList_app rfl _ _ rfl (w0.heap.size + 1) _ _ a.st [tv] rfl HT4.out.2.1 rfl (RI.oneN _ (tv) _ (by unfold Fit; omega) 3 (by simp [World.setCell])) (by simp; omega) (by simp [World.setCell]; omega) ?_)
                    intro v2' w2 h1 h2 h3
                    obtain ⟨A2', c2', rfl⟩ := h1.slice (n := a.st.length + 1) (by simp)
                    have hne : ∀ g, (Value.slice A2 a.st.length c2).ownBlock = some g → w0.heap.size + 1 ≤ g := fun g hg => (HT4.out.2.1.lt g hg).1
                    have hH5 := ((HH3.out.set (i := 1) (v := .slice A' (a.ex.length + 1) c')).alloc (.cells #[.int .i64 (tv)] 3)).grown h2 (fun g hg => by have := hne g hg; omega)
                    have HT5 := Lib.hid (HT4.out.swap.app h1 h2 (by simpa [World.setCell] using h3)).swap
                    have HBW5 := Lib.hid (((HBW3.out.st (b := w0.heap.size) (i := 1) (u := .slice A' (a.ex.length + 1) c') (Nat.le_refl _)).alloc (by simp [World.setCell]; omega) (.cells #[.int .i64 (tv)] 3)).grown h2 (by simp [World.setCell]; omega) (fun g hg => by have := hne g hg; omega))
                    have hz5 : w0.heap.size < w2.heap.size := by have := h2.size; simp [World.setCell] at this; omega
                    have HH5 := Lib.hid hH5
                    obtain ⟨u1, u2, u3⟩ := hH5.c3
                    obtain ⟨v1, v2, v3⟩ := hH5.f3
                    clear h1 h2 h3 hne hH5
                    go_wp2
                    go_roundw
                    case rel => exact ⟨k + 1, ⟨a.b, a.ex ++ [n], a.st ++ [tv]⟩, A', A2', c', c2', by omega, by go_num, HG3.out.symm, by simp only [List.length_append, List.length_cons, List.length_nil, Nat.zero_add]; exact HH5.out.set (i := 2), by simp only [List.length_append, List.length_cons, List.length_nil, Nat.zero_add]; exact HT5.out.far (by omega), by simp only [List.length_append, List.length_cons, List.length_nil, Nat.zero_add]; omega, by simp only [List.length_append, List.length_cons, List.length_nil, Nat.zero_add]; omega, HFA.out, fun h => absurd (show 0 < pr d.ex from h) (by rw [← HPZ.out]; omega), HBW5.out.st (Nat.le_refl _), by simp [World.setCell]; omega⟩
                    case measure => simp [intOf]; omega
              · have hn1 := hn1 rfl
                clear hst
                have hn0 : 0 < n := by omega
                have hb12 : subB f ev = true ∧ subB l ev = true := by have := HBG.out; rw [decide_eq_true hn0] at this; simpa using this
                rw [hb12.1] at C1; rw [hb12.2] at C2
                clear hb12 hn1
                by_cases hz : 0 < pr d.ex
                · have hz1 : 0 < z := by rw [HPZ.out]; omega
                  have hbd := hbd hz
                  have HE3 := Lib.hid (show cutStep (decide (0 < pr d.ex)) ⟨true, one, lo, hi, st⟩ tv a = ⟨a.b + f * tv, a.ex, a.st⟩ by
                    unfold cutStep
                    rw [if_pos (decide_eq_true hz), ← HF.out]
                    rfl)
                  have HG3 := Lib.hid (HG2.out.trans (by rw [HE3.out]))
                  go_wp2_with fail
                  refine HRE.out.mono ?_
                  rintro e w1 ⟨rfl, hb⟩
                  obtain ⟨hb1, hbx⟩ := HCK.out w1 hb
                  have hbw := HBB.out.trans (hb1.mono (show w0.heap.size ≤ wr.heap.size by omega))
                  have hd1 := HD0.out.keep hbw
                  have hH1 := (HH.out.keep hb1)
                  have hT1 := (HTT.out.keep hb1)
                  have me1 := ck hb1 me
                  have mt1 := ck hb1 mt
                  have n1 := hb1.size
                  obtain ⟨y1, y2, y3⟩ := hd1.c3
                  obtain ⟨u1, u2, u3⟩ := hH1.c3
                  obtain ⟨v1, v2, v3⟩ := hH1.f3
                  have x0 := (hbx 0 _ rfl).1
                  have x4 := (hbx 4 _ rfl).1
                  have HBW := Lib.hid hbw; have HH1 := Lib.hid hH1; have HT1 := Lib.hid hT1
                  clear hb hb1 hbx hbw hd1 hH1 hT1 me mt m0 m1 m2 m3 m4 q1 q2 q3
                  go_wp2_with (first | (go_at_call 56; first | ((with_reducible refine (C1.out _).mono ?_); rintro e w' ⟨rfl, rfl⟩) | ((with_reducible refine (C2.out _).mono ?_); rintro e w' ⟨rfl, rfl⟩)) | go_in)
                  go_roundw
                  case rel => exact ⟨k + 1, ⟨a.b + f * tv, a.ex, a.st⟩, A1, A2, c1, c2, by omega, by go_num, HG3.out.symm, HH1.out.set (i := 0), HT1.out.far (by omega), Nat.le_trans hl1 (Nat.le_succ k), Nat.le_trans hl2 (Nat.le_succ k), (show Fit (a.b + f * tv) by unfold Fit; omega), fun _ => (show -((k + 1 : Nat) : Int) * 8589934592000 ≤ a.b + f * tv ∧ a.b + f * tv ≤ 2147483648 + ((k + 1 : Nat) : Int) * 8589934592000 by omega), HBW.out.st (Nat.le_refl _), by simp [World.setCell]; omega⟩
                  case measure => simp [intOf]; omega
                · have hz1 : ¬ 0 < z := by rw [HPZ.out]; omega
                  clear hbd
                  have HE3 := Lib.hid (show cutStep (decide (0 < pr d.ex)) ⟨true, one, lo, hi, st⟩ tv a = ⟨a.b, a.ex, a.st⟩ by
                    unfold cutStep
                    rw [if_neg (by simpa using hz)]
                    rfl)
                  have HG3 := Lib.hid (HG2.out.trans (by rw [HE3.out]))
                  go_wp2_with fail
                  refine HRE.out.mono ?_
                  rintro e w1 ⟨rfl, hb⟩
                  obtain ⟨hb1, hbx⟩ := HCK.out w1 hb
                  have hbw := HBB.out.trans (hb1.mono (show w0.heap.size ≤ wr.heap.size by omega))
                  have hd1 := HD0.out.keep hbw
                  have hH1 := (HH.out.keep hb1)
                  have hT1 := (HTT.out.keep hb1)
                  have me1 := ck hb1 me
                  have mt1 := ck hb1 mt
                  have n1 := hb1.size
                  obtain ⟨y1, y2, y3⟩ := hd1.c3
                  obtain ⟨u1, u2, u3⟩ := hH1.c3
                  obtain ⟨v1, v2, v3⟩ := hH1.f3
                  have x0 := (hbx 0 _ rfl).1
                  have x4 := (hbx 4 _ rfl).1
                  have HBW := Lib.hid hbw; have HH1 := Lib.hid hH1; have HT1 := Lib.hid hT1
                  clear hb hb1 hbx hbw hd1 hH1 hT1 me mt m0 m1 m2 m3 m4 q1 q2 q3
                  go_wp2_with (first | (go_at_call 56; first | ((with_reducible refine (C1.out _).mono ?_); rintro e w' ⟨rfl, rfl⟩) | ((with_reducible refine (C2.out _).mono ?_); rintro e w' ⟨rfl, rfl⟩)) | go_in)
                  go_roundw
                  case rel => exact ⟨k + 1, ⟨a.b, a.ex, a.st⟩, A1, A2, c1, c2, by omega, by go_num, HG3.out.symm, HH1.out, HT1.out, Nat.le_trans hl1 (Nat.le_succ k), Nat.le_trans hl2 (Nat.le_succ k), HFA.out, fun h => absurd (show 0 < pr d.ex from h) (by rw [← HPZ.out]; omega), HBW.out, by omega⟩
                  case measure => simp [intOf]; omega
          · obtain rfl : k = S.length := by omega
            obtain ⟨q1, q2, q3⟩ := hH.c3
            have hR1 := HR0.out.keep hB
            obtain ⟨r1, r2, r3⟩ := hR1.c3
            obtain ⟨p1, p2, p3⟩ := hR1.f3
            have e0 : cutO d S = some a := by rw [← hgo]; exact cutGo_end (Nat.le_refl _)
            obtain ⟨e1, e2⟩ := cut_yes HOK.out e0
            have HE1' := Lib.hid e1; have HE2' := Lib.hid e2
            have HRR := Lib.hid hR1; have HTT := Lib.hid hT; have HBB := Lib.hid (bt_ HB0.out hB); have HFA := Lib.hid hfa
            clear e0 e1 e2 hgo hH hT hB hR1 hbd hfa g1 g2 g3
            go_wp2
            rw [HE1'.out, HE2'.out]
            exact bodyPost_ret (resD29 _ _ _ _ _ _ _ rfl rfl (HRR.out.set3 _ _ _)) rfl ⟨_, rfl, ⟨_, _, rfl, (((HTT.out.1.far (by omega)).far (by omega)).far (by omega)).ri, (((HTT.out.2.1.far (by omega)).far (by omega)).far (by omega)).ri, HFA.out⟩, ((HBB.out.st (by omega)).st (by omega)).st (by omega)⟩
    · have f0 : ((S.length : Int) == (d.ex.length : Int)) = false := by simp; omega
      have f1 : ((S.length : Int) != (d.ex.length : Int)) = true := by simp; omega
      obtain ⟨e1, e2⟩ := cut_no (show cutOk d S = false by unfold cutOk; rw [decide_eq_false hl]; simp)
      rw [e1, e2]
      clear e1 e2 hl
      go_enter Try.func29, Try.ntmps29
      go_wp2_with fail
      refine HZ.out.mono ?_
      rintro e w1 ⟨rfl, hb⟩
      have HR1 := Lib.hid (HR.out.keep hb)
      have HB1 := Lib.hid (bt_ HB.out hb)
      obtain ⟨g1, g2, g3⟩ := (HD.out.keep hb).c3
      have hR1 := HR.out.keep hb
      simp only [World.size_alloc] at HR1 hR1
      obtain ⟨r1, r2, r3⟩ := hR1.c3
      obtain ⟨p1, p2, p3⟩ := hR1.f3
      clear hb hR1
      go_wp2
      exact bodyPost_ret (resD29 _ _ _ _ _ _ _ rfl rfl (HR1.out.set3 _ _ _)) rfl ⟨_, rfl, RD.zero _, ((HB1.out.st (by omega)).st (by omega)).st (by omega)⟩
  · have hv' : vldB d = false := by simpa using hv
    rw [szR_no hv'] at HZ
    obtain ⟨e1, e2⟩ := cut_no (show cutOk d S = false by unfold cutOk; rw [hv']; simp)
    rw [e1, e2]
    clear e1 e2 hv hv'
    go_enter Try.func29, Try.ntmps29
    go_wp2_with fail
    refine HZ.out.mono ?_
    rintro e w1 ⟨rfl, hb⟩
    have HR1 := Lib.hid (HR.out.keep hb)
    have HB1 := Lib.hid (bt_ HB.out hb)
    have hR1 := HR.out.keep hb
    simp only [World.size_alloc] at HR1 hR1
    obtain ⟨r1, r2, r3⟩ := hR1.c3
    obtain ⟨p1, p2, p3⟩ := hR1.f3
    clear hb hR1
    go_wp2
    exact bodyPost_ret (resD29 _ _ _ _ _ _ _ rfl rfl (HR1.out.set3 _ _ _)) rfl ⟨_, rfl, RD.zero _, ((HB1.out.st (by omega)).st (by omega)).st (by omega)⟩
end Go.Proofs.Ytkgdnlknnjiglaa

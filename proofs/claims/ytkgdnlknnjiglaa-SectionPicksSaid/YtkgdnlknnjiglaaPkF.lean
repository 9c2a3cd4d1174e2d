/- Contract of the code's Pick. -/
import Derived.Test.YtkgdnlknnjiglaaPkG
namespace Go.Proofs.Ytkgdnlknnjiglaa
open Go.RowKit

/-- How many subscripts each list has, as far as k. -/
def cntS (Ls : List (List Int)) (k : Nat) : List Int := (lensOf Ls).take k ++ zeros (Ls.length - k)
theorem cntS_zero (Ls : List (List Int)) : cntS Ls 0 = zeros Ls.length := by simp [cntS]
theorem cntS_all (Ls : List (List Int)) : cntS Ls Ls.length = lensOf Ls := by
  unfold cntS
  rw [List.take_of_length_le (by simp [lensOf]), Nat.sub_self]; simp [zeros]
theorem cntS_len {Ls : List (List Int)} {k : Nat} (h : k ≤ Ls.length) : (cntS Ls k).length = Ls.length := by simp [cntS, zeros, lensOf]; omega
theorem cntS_set {Ls : List (List Int)} {k : Nat} {l : List Int} (h : Ls[k]? = some l) : (cntS Ls k).set k (l.length : Int) = cntS Ls (k + 1) := by
  have hk := (List.getElem?_eq_some_iff.1 h).1
  have hlen : ((lensOf Ls).take k).length = k := by simp [lensOf]; omega
  unfold cntS
  rw [List.set_append_right _ _ (by omega), hlen, Nat.sub_self, List.take_add_one, lens_at h, show Ls.length - k = (Ls.length - (k + 1)) + 1 by omega]
  simp [zeros, List.replicate_succ]
/-- The head of the loop that counts. -/
def PLRel (Ls : List (List Int)) (w4 : World) (n x : Value) (wr : World) : Prop :=
  ∃ k : Nat, k ≤ Ls.length ∧ x = .int .i64 (k : Int) ∧ n = .int .i64 ((pn Ls k : Nat) : Int) ∧ (∀ j, j ≤ k → pn Ls j ≤ 4000) ∧ Has wr w4.heap.size (icells (cntS Ls k)) ∧ Below w4.heap.size w4 wr ∧ w4.heap.size < wr.heap.size
set_option maxRecDepth 100000 in
set_option maxHeartbeats 4000000 in
theorem Pick_c (v vL : Value) (d : DS) (Ls : List (List Int)) (w : World) (h : RD w v d) (hL : RL w vL Ls) (hsm : ∀ l ∈ Ls, l.length ≤ 6000) : Calls Try.prog 31 #[v, vL] w (LPost (pkL d Ls) (pkE d Ls) w) := by
  have h0 := h
  obtain ⟨ve, vt, rfl, he, ht, hfb⟩ := h
  obtain ⟨E, ce, rfl⟩ := he.slice
  obtain ⟨T, ct, rfl⟩ := ht.slice
  have hL0 := hL
  obtain ⟨Z, cz, rfl, hmz, -⟩ := hL
  have hme := he.len; have hmt := ht.len
  have HB := Lib.hid (bt_ (box_below w (.cells #[.int .i64 d.b, .slice E d.ex.length ce, .slice T d.st.length ct] 31)) (box_below _ (.cells #[.slice Z Ls.length cz] 47)))
  have HD := Lib.hid ((Has.new w [.int .i64 d.b, .slice E d.ex.length ce, .slice T d.st.length ct] 31).alloc (.cells #[.slice Z Ls.length cz] 47))
  have HM := Lib.hid (Has.new (w.alloc (.cells #[.int .i64 d.b, .slice E d.ex.length ce, .slice T d.st.length ct] 31)) [.slice Z Ls.length cz] 47)
  rw [World.size_alloc] at HM
  have HV := Lib.hid (Valid_c _ d _ (h0.keep HB.out))
  have HRD := Lib.hid h0; have HRL := Lib.hid hL0
  have HSM := Lib.hid hsm; have HFB := Lib.hid hfb; have HE := Lib.hid he; have HT := Lib.hid ht
  clear h0 he ht hsm hL0
  by_cases hv : vldB d = true
  rotate_left
  · rw [show vldB d = false by simpa using hv] at HV
    have HX := Lib.hid (pk_no (show pkOk d Ls = false by unfold pkOk; rw [show vldB d = false by simpa using hv]; rfl))
    rw [HX.out.1, HX.out.2]
    clear hv
    go_enter Try.func31, Try.ntmps31
    go_wp2_with fail
    refine HV.out.mono ?_
    rintro e w1 ⟨rfl, hb⟩
    have HB1 := Lib.hid (bt_ HB.out hb.below)
    clear hb
    go_wp2
    go_ret2
    exact ⟨_, rfl, RI.nil _ _, HB1.out⟩
  rw [hv] at HV
  have HO := Lib.hid (vld_ok hv)
  have HVV := Lib.hid hv
  clear hv
  by_cases hl : Ls.length = d.ex.length
  rotate_left
  · have f0 : ((Ls.length : Int) == (d.ex.length : Int)) = false := by simp; omega
    have f1 : ((Ls.length : Int) != (d.ex.length : Int)) = true := by simp; omega
    have HX := Lib.hid (pk_no (show pkOk d Ls = false by unfold pkOk; rw [decide_eq_false hl]; simp))
    rw [HX.out.1, HX.out.2]
    clear hl
    go_enter Try.func31, Try.ntmps31
    go_wp2_with fail
    refine HV.out.mono ?_
    rintro e w1 ⟨rfl, hb⟩
    have HB1 := Lib.hid (bt_ HB.out hb.below)
    obtain ⟨y1, y2, y3⟩ := (HD.out.keep hb.below).c3
    have m1 := ((HM.out.keep hb.below) 0 _ rfl).1
    clear hb
    go_wp2
    go_ret2
    exact ⟨_, rfl, RI.nil _ _, HB1.out⟩
  have f0 : ((Ls.length : Int) == (d.ex.length : Int)) = true := by simp; omega
  have f1 : ((Ls.length : Int) != (d.ex.length : Int)) = false := by simp; omega
  have HL := Lib.hid hl
  have HOK := Lib.hid (show pkOk d Ls = true by unfold pkOk; rw [HVV.out, decide_eq_true hl]; rfl)
  clear hl
  go_enter Try.func31, Try.ntmps31
  go_wp2_with fail
  refine HV.out.mono ?_
  rintro e w1 ⟨rfl, hb⟩
  have HB1 := Lib.hid (bt_ HB.out hb.below)
  have HD1 := Lib.hid (HD.out.keep hb.below); have HM1 := Lib.hid (HM.out.keep hb.below)
  have hs1 : w.heap.size + 2 ≤ w1.heap.size := by have := hb.below.size; simp at this; omega
  obtain ⟨y1, y2, y3⟩ := HD1.out.c3
  have m1 := (HM1.out 0 _ rfl).1
  clear hb
  go_wp2_with fail
  go_loopw [25] (fun x wr => ∃ k : Nat, k ≤ Ls.length ∧ x = .int .i64 (k : Int) ∧ inP d Ls k ∧ Below w1.heap.size w1 wr) (fun x _ => Ls.length - (intOf x).toNat)
  case atStart => exact ⟨0, Nat.zero_le _, rfl, fun j _ _ hj => by omega, Below.refl _ _⟩
  case round =>
    obtain ⟨k, hk, rfl, hin, hB⟩ := hrel
    have HIN := Lib.hid hin; have HBB := Lib.hid hB
    clear hin hB
    by_cases hlt : k < Ls.length
    · obtain ⟨b3, o3, c3, l, A', c', e3, hl, hc, hR⟩ := (HRL.out.keep (bt_ HB1.out HBB.out)).at_ hlt
      obtain ⟨rfl, rfl⟩ : Z = some ⟨b3, o3, none⟩ ∧ cz = c3 := by simpa using e3
      obtain ⟨ev, hev⟩ : ∃ e, d.ex[k]? = some e := ⟨_, List.getElem?_eq_getElem (by have := HL.out; omega)⟩
      have HLK := Lib.hid hl; have HEK := Lib.hid hev; have HRK := Lib.hid hR
      have hbx := box_below wr (.cells #[.int .i64 (k : Int)] 3)
      have HBX := Lib.hid (HBB.out.trans (hbx.mono HBB.out.size))
      have hE2 := HE.out.keep (bt_ HB1.out HBX.out)
      have hd2 := ((HD1.out.keep HBX.out) 1 _ rfl).1
      have hm2 := ((Has.new wr [.int .i64 (k : Int)] 3) 0 _ rfl).1
      have HC := Lib.hid (contains_c (fun i => !subB (l.getD i 0) ev) 60 #[.pointer (some ⟨w.heap.size, 0, none⟩), .pointer (some ⟨wr.heap.size, 0, none⟩)] (.slice A' l.length c') l (wr.alloc (.cells #[.int .i64 (k : Int)] 3))
        (fun _ w' => wr.alloc (.cells #[.int .i64 (k : Int)] 3) = w') (fun _ w' => wr.alloc (.cells #[.int .i64 (k : Int)] 3) = w') eg60 (fun _ w' e => by subst e; exact hR.keep hbx) rfl
        (fun i x w2 hx hf e => by
          subst e
          refine (pk1_c x w.heap.size wr.heap.size _ d.ex k ev _ hd2 hE2 hm2 hev).mono ?_
          rintro e w' ⟨rfl, rfl⟩
          rw [List.getD_eq_getElem?_getD, hx]
          refine ⟨rfl, ?_⟩
          split <;> rfl))
      have hml := hR.len
      clear e3 hl hev hR hbx hE2 hd2 hm2
      go_wp2_with fail
      refine HC.out.mono ?_
      rintro e w2 ⟨rfl, hJ⟩
      have hw2 : wr.alloc (.cells #[.int .i64 (k : Int)] 3) = w2 := by rcases hJ with ⟨_, _, _, h⟩ | ⟨_, h⟩ <;> exact h
      have HB2 := Lib.hid (show Below w1.heap.size w1 w2 by rw [← hw2]; exact HBX.out)
      have hany := any_range (l := l) (q := fun x => !subB x ev)
      rw [hany]
      clear hJ hw2 hany
      rcases hq : l.any (fun x => !subB x ev) with _ | _
      · have HN := Lib.hid (show inP d Ls (k + 1) from fun j l' e hj h1 h2 => by
          rcases Nat.lt_or_ge j k with h | h
          · exact HIN.out j l' e h h1 h2
          · have hjk : j = k := by omega
            subst hjk
            rw [HLK.out] at h1; rw [HEK.out] at h2
            cases h1; cases h2
            rw [List.all_eq_not_any_not, hq]; rfl)
        clear hq
        go_wp2
        go_roundw
        case rel => exact ⟨k + 1, by omega, by go_num, HN.out, HB2.out⟩
        case measure => simp [intOf]; omega
      · have HX := Lib.hid (pk_out HOK.out (by
          obtain ⟨s, hs, hb⟩ := List.any_eq_true.1 hq
          exact in_bad HLK.out HEK.out hs (by simpa using hb)))
        clear hq
        go_wp2
        go_ret2
        rw [HX.out.1, HX.out.2]
        exact ⟨_, rfl, RI.nil _ _, bt_ HB1.out HB2.out⟩
    · obtain rfl : k = Ls.length := by omega
      have HPI := Lib.hid (in_all.2 HIN.out)
      have mk1 := make29 Ls.length (by have := HL.out; have := (okE_iff.1 HO.out.1).1; omega)
      have m3 := ((HM1.out.keep HBB.out) 0 _ rfl).1
      have hbx := box_below wr (.cells (icells (zeros Ls.length)).toArray 3)
      have m2 := ((HM1.out.keep (HBB.out.trans (hbx.mono HBB.out.size))) 0 _ rfl).1
      go_wp2_with fail
      obtain ⟨w4, rfl⟩ : ∃ w4, w4 = wr := ⟨_, rfl⟩
      have HBB4 := Lib.hid HBB.out
      have HIN4 := Lib.hid HIN.out
      clear m2 m3 hbx mk1 hlt hk
      go_loopw [8, 39] (PLRel Ls w4) (fun _ x _ => Ls.length - (intOf x).toNat)
      case atStart =>
        refine ⟨0, Nat.zero_le _, rfl, by rw [pn_zero]; rfl, fun j hj => by (have : j = 0 := by omega); subst this; rw [pn_zero]; omega, ?_, box_below _ _, by simp⟩
        have := Has.new w4 (icells (zeros Ls.length)) 3
        rw [cntS_zero]; exact this
      case round =>
        obtain ⟨k, hk, rfl, rfl, hpn, hC, hB, hsz⟩ := hrel
        have HPN := Lib.hid hpn
        have hp4 := hpn k (Nat.le_refl _)
        by_cases hlt : k < Ls.length
        · obtain ⟨b3, o3, c3, l, A', c', e3, hl, hc, hR⟩ := (HRL.out.keep (bt_ HB1.out (HBB4.out.trans (hB.mono HBB4.out.size)))).at_ hlt
          obtain ⟨rfl, rfl⟩ : Z = some ⟨b3, o3, none⟩ ∧ cz = c3 := by simpa using e3
          have hl6 := HSM.out l (List.mem_of_getElem? hl)
          obtain ⟨q1, q2⟩ := hC k _ (icells_at (List.getElem?_eq_getElem (by rw [cntS_len hk]; exact hlt)))
          have hC2 := hC.set (i := k) (v := .int .i64 (l.length : Int))
          rw [← icells_set, cntS_set hl] at hC2
          have HC2 := Lib.hid hC2
          have HB2 := Lib.hid (hB.st (b := w4.heap.size) (i := k) (u := .int .i64 (l.length : Int)) (Nat.le_refl _))
          have hmul2 : pn Ls k * l.length ≤ 4000 * 6000 := Nat.mul_le_mul hp4 hl6
          have hmul : ((pn Ls k : Nat) : Int) * (l.length : Int) = ((pn Ls k * l.length : Nat) : Int) := by simp
          have hps := pn_succ hl
          rw [← hps] at hmul hmul2
          have hwm : IntKind.i64.wrap (((pn Ls k : Nat) : Int) * (l.length : Int)) = ((pn Ls (k + 1) : Nat) : Int) := by rw [hmul]; exact IntWalk.i64_in _ (by omega)
          obtain ⟨q, hq⟩ : ∃ q, q = pn Ls (k + 1) := ⟨_, rfl⟩
          rw [← hq] at hwm hmul2
          obtain ⟨q0, hq0⟩ : ∃ q, q = pn Ls k := ⟨_, rfl⟩
          rw [← hq0] at hwm hp4
          rw [← hq0]
          have HQ := Lib.hid hq
          have hml := hR.len
          clear e3 hl hR hC hB hC2 hmul hps hq hq0 hpn
          by_cases hbig : 4000 < q
          · have HX := Lib.hid (pk_big HOK.out HPI.out (fit_big (k := k + 1) (by omega) (by rw [← HQ.out]; exact hbig)))
            have hq2 : (4000 : Int) < (q : Int) := by omega
            go_wp2
            go_ret2
            rw [HX.out.1, HX.out.2]
            exact ⟨_, rfl, RI.nil _ _, bt_ HB1.out (HBB4.out.trans (HB2.out.mono HBB4.out.size))⟩
          · have hq2 : ¬ (4000 : Int) < (q : Int) := by omega
            have HPN2 := Lib.hid (show ∀ j, j ≤ k + 1 → pn Ls j ≤ 4000 from fun j hj => by
              rcases Nat.lt_or_ge j (k + 1) with h | h
              · exact HPN.out j (by omega)
              · have : j = k + 1 := by omega
                rw [this, ← HQ.out]; omega)
            go_wp2
            go_roundw
            case rel => exact ⟨k + 1, by omega, by go_num, by rw [HQ.out], HPN2.out, HC2.out, HB2.out, by simp [World.setCell]; exact hsz⟩
            case measure => simp [intOf]; omega
        · obtain rfl : k = Ls.length := by omega
          have HX := Lib.hid (pk_yes HOK.out HPI.out (fit_all hpn))
          have hbw : Below w.heap.size w wr := bt_ HB1.out (HBB4.out.trans (hB.mono HBB4.out.size))
          have hbw1 : Below w1.heap.size w1 wr := HBB4.out.trans (hB.mono HBB4.out.size)
          obtain ⟨y1, y2, y3⟩ := (HD1.out.keep hbw1).c3
          have m2 := ((HM1.out.keep hbw1) 0 _ rfl).1
          rw [cntS_all] at hC
          have hln : (lensOf Ls).length = Ls.length := by simp [lensOf]
          have hri : RI wr (.slice (some ⟨w4.heap.size, 0, none⟩) Ls.length Ls.length) (lensOf Ls) := by
            refine ⟨_, Ls.length, by rw [hln], by rw [hln]; omega, fun x hx => ?_, fun _ => ⟨_, 0, rfl, fun j u hu => by rw [Nat.zero_add]; exact (hC j _ (icells_at hu)).1⟩⟩
            obtain ⟨l, hl, rfl⟩ := List.mem_map.1 hx
            have := HSM.out l hl
            unfold Fit; omega
          have HG := Lib.hid (gatherP_c _ _ _ (w.heap.size + 1) Ls d (lensOf Ls) (pn Ls Ls.length) wr (HRD.out.keep hbw) hri (by rw [hln, HL.out, HO.out.2.1]) HO.out.2.2.1 rfl
            (fun j l x hj hx => by
              obtain ⟨e, he⟩ : ∃ e, d.ex[j]? = some e := ⟨_, List.getElem?_eq_getElem (by have := (List.getElem?_eq_some_iff.1 hj).1; have := HL.out; omega)⟩
              have h1 := sub_iff.1 (List.all_eq_true.1 (HIN4.out j l e (List.getElem?_eq_some_iff.1 hj).1 hj he) x hx)
              have h2 := (okE_iff.1 HO.out.1).2.1 e (List.mem_of_getElem? he)
              omega)
            (by rw [hln, HL.out]; exact (okE_iff.1 HO.out.1).1) hp4
            (fun h e he => by
              obtain ⟨l, hl, rfl⟩ := List.mem_map.1 he
              have := pn_ne (by omega) l hl
              omega) m2 (HRL.out.keep hbw))
          rw [gatP_eq (by rw [HL.out, HO.out.2.1])] at HG
          have HBW := Lib.hid hbw
          obtain ⟨N, hN⟩ : ∃ N, N = pn Ls Ls.length := ⟨_, rfl⟩
          rw [← hN] at HG
          rw [← hN]
          clear hC hB hri hbw hbw1 hN hpn hp4
          go_wp2_with fail
          refine HG.out.mono ?_
          rintro e w6 ⟨⟨v', rfl, hr6⟩, hb6⟩
          have HR6 := Lib.hid hr6; have HB6 := Lib.hid (bt_ HBW.out hb6)
          obtain ⟨A6, c6, rfl⟩ := hr6.slice
          clear hr6 hb6
          go_wp2
          go_ret2
          rw [HX.out.1, HX.out.2]
          exact ⟨_, rfl, HR6.out, HB6.out⟩
end Go.Proofs.Ytkgdnlknnjiglaa

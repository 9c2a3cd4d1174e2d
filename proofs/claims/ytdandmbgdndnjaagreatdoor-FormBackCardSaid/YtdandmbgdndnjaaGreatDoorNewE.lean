/- Contract of readNew: the lines of the new form, one by one. -/
import Derived.Test.YtdandmbgdndnjaaGreatDoorNewD
namespace Go.Proofs.YtdandmbgdndnjaaGreatDoor
open Go.RowKit

/-- The relation at the head of readNew's loop. -/
def NwRel (xs : List ByteArray) (lb rb db : Nat) (ls : Value) (st0 : Ro) (w : World) (f t : Value) (wr : World) : Prop :=
  ∃ (k fr : Nat) (st : Ro) (ss : Value) (tb : ByteArray), k ≤ xs.length ∧ t = .int .i64 (k : Int) ∧ f = .int .i64 (fr : Int) ∧ fr ≤ k ∧ tb.data.toList = st.tx ∧ tb.size + wt (xs.drop k) ≤ 80000 ∧ st.sts.length + wt (xs.drop k) ≤ 80000 ∧ st.l ≤ xs.length ∧ st.at_ ≤ xs.length ∧ st.op < 256 ∧
    Has wr rb [ls, ss, .int .i64 (st.l : Int)] ∧ Has wr db [.int .i64 (st.lab : Int), .int .i64 (st.at_ : Int), .string tb, .int .u8 (st.op : Int)] ∧ Has wr lb (xs.map .string) ∧
    wr.ownsRow (rb + 1) 34 3 ss st.sts.length (scells st.sts) ∧ ss.ownBlock ≠ some db ∧ nwAll (xs.drop k) k (st, fr) = nwAll xs 0 (st0, 0) ∧ Below rb w wr

/-- What readNew leaves. -/
def RnPost (rb : Nat) (ls : Value) (st : Ro) (w : World) (e : Ending) (w' : World) : Prop :=
  ∃ ss', e = .returned (.tuple #[]) ∧ Has w' rb [ls, ss', .int .i64 (st.l : Int)] ∧ w'.ownsRow (rb + 1) 34 3 ss' st.sts.length (scells st.sts) ∧ Below rb w w'

theorem jnW_le {l a o n : Nat} {L : List UInt8} (h1 : l ≤ n) (h2 : a ≤ n) : jnW l a L o ≤ n := by
  unfold jnW
  split
  · exact h1
  · split
    · exact h1
    · exact wrN_le h1 h2

set_option maxRecDepth 100000 in
set_option maxHeartbeats 8000000 in
theorem readNew_c (xs : List ByteArray) (lb rb l0 : Nat) (ls : Value) (n c : Nat) (w : World) (hls : ls = .slice (some ⟨lb, 0, none⟩) n c) (hn : xs.length = n) (hn9 : n ≤ 40000) (hx9 : wt xs ≤ 80000)
    (hl : l0 ≤ n) (hlr : lb < rb) (hr : Has w rb [ls, .slice none 0 0, .int .i64 (l0 : Int)]) (hL : Has w lb (xs.map .string)) (st0 st1 : Ro) (hst0 : st0 = ⟨[], l0, 0, 0, [], 0⟩) (hst1 : st1 = nwEnd (nwAll xs 0 (st0, 0))) :
    Calls Tryz.prog 36 #[.pointer (some ⟨rb, 0, none⟩)] w (RnPost rb ls st1 w) := by
  have hr0 := hr.c3.1
  have hrl := hr.lt
  have hRR : NwRel xs lb rb w.heap.size ls st0 w (.int .i64 0) (.int .i64 0) (w.alloc (.cells #[.int .i64 0, .int .i64 0, .string ⟨#[]⟩, .int .u8 0] 82)) := by
    subst hst0
    exact ⟨0, 0, ⟨[], l0, 0, 0, [], 0⟩, .slice none 0 0, ⟨#[]⟩, by omega, rfl, rfl, Nat.le_refl 0, rfl, (show 0 + wt xs ≤ 80000 by omega), (show 0 + wt xs ≤ 80000 by omega), (show l0 ≤ xs.length by omega), Nat.zero_le _, (show 0 < 256 by omega), hr.alloc _, Has.new w _ 82, hL.alloc _, World.ownsRow_nil _ _ _ _, by simp [Value.ownBlock], by rw [List.drop_zero], (Below.refl _ _).alloc (by omega) _⟩
  have HRR := Lib.hid hRR; have Hn := Lib.hid hn; have Hs1 := Lib.hid hst1; have Hls := Lib.hid hls
  have hr0' := hr0
  rw [hls] at hr0'
  clear hr hL hn hx9 hRR hst1 hst0 hr0
  go_enter Tryz.func36, Tryz.ntmps36
  go_wp2_with fail
  go_loopw [3, 14] (fun f t wr => NwRel xs lb rb w.heap.size ls st0 w f t wr) (fun _ t _ => n - (intOf t).toNat)
  case atStart => exact HRR.out
  case round =>
    obtain ⟨k, fr, st, ss, tb, hk, rfl, rfl, hfr, htb, htw, hsw, hll, hat, hop, hR, hD, hL, hO, hob, hq, hB⟩ := hrel
    have hxl := Hn.out
    have hkn : k ≤ n := by omega
    have hll2 : st.l ≤ 40000 := by omega
    have hat2 : st.at_ ≤ 40000 := by omega
    clear hr0'
    by_cases hlt : k < n
    · obtain ⟨x, hx⟩ : ∃ x, xs[k]? = some x := ⟨_, List.getElem?_eq_getElem (by omega)⟩
      have hcx : wr.cell? ⟨lb, k, none⟩ = some (.string x) := (hL k _ (by rw [List.getElem?_map, hx]; rfl)).1
      have hwt := wt_at hx
      rw [hwt] at htw hsw
      have hxs : x.size ≤ 80000 := by omega
      have hc0 : (0 : Int) ≤ (k : Int) := by omega
      rw [nwAll_at hx] at hq
      obtain ⟨d0, d1, d2, d3⟩ := hD.c4
      have hdb := hD.lt
      have HR := Lib.hid hR; have HD := Lib.hid hD; have HL := Lib.hid hL; have HO := Lib.hid hO; have Hob := Lib.hid hob; have Hq := Lib.hid hq; have Htb := Lib.hid htb; have HB := Lib.hid hB
      have hbs := hB.size
      clear hR hD hL hO hob hq htb hx hxl hwt hB
      generalize hcm : cmQ x.data.toList false = q
      have Hcm := Lib.hid hcm
      clear hcm
      cases q
      rotate_left
      · have HCm := Lib.hid (fun wx => Comment_c x false wx)
        rw [Hcm.out] at HCm
        by_cases hz : fr = 0 ∨ st.op = 0
        · have hst : nwStep (st, fr) k x.data.toList = (st, fr) := by unfold nwStep; rw [if_pos Hcm.out, if_pos hz]
          have Hst := Lib.hid hst
          clear hst
          have hP : ∀ wz, wr = wz → NwRel xs lb rb w.heap.size ls st0 w (.int .i64 (fr : Int)) (.int .i64 ((k : Int) + 1)) wz := by
            rintro wz rfl
            exact ⟨k + 1, fr, st, ss, tb, by rw [Hn.out]; omega, by go_num, rfl, by omega, Htb.out, by omega, by omega, hll, hat, hop, HR.out, HD.out, HL.out, HO.out, Hob.out, by rw [← Hq.out, Hst.out], HB.out⟩
          have HP := Lib.hid hP
          clear hP
          have hz2 : (decide ((0 : Int) < (fr : Int)) && !((st.op : Int) == 0)) = false := by
            rcases hz with h | h <;> simp [h]
          go_wp2_with fail
          refine (HCm.out _).mono ?_
          rintro e w2 ⟨rfl, rfl⟩
          go_wp2_with fail
          all_goals
            go_roundw
            case rel => exact HP.out _ rfl
            case measure => simp [intOf]; omega
        · have hfr0 : ¬ fr = 0 := fun e => hz (Or.inl e)
          have hop0 : ¬ st.op = 0 := fun e => hz (Or.inr e)
          have hst : nwStep (st, fr) k x.data.toList = (⟨st.sts, wrN st.l (k + 1), st.lab, st.at_, st.tx, st.op⟩, fr) := by unfold nwStep; rw [if_pos Hcm.out, if_neg hz]
          have Hst := Lib.hid hst
          have f1 : decide ((0 : Int) < (fr : Int)) = true := by simp; omega
          have f2 : ((st.op : Int) == 0) = false := by simp; omega
          clear hst hz
          go_wp2_with fail
          refine (HCm.out _).mono ?_
          rintro e w2 ⟨rfl, rfl⟩
          go_wp2_with fail
          refine (wrong_c rb ls ss st.l (k + 1) wr HR.out (by omega)).mono ?_
          rintro e w4 ⟨rfl, hR4, hkb4⟩
          have hobl : ∀ g, ss.ownBlock = some g → rb + 1 ≤ g := fun g hg => (HO.out.lt g hg).1
          have hP : NwRel xs lb rb w.heap.size ls st0 w (.int .i64 (fr : Int)) (.int .i64 ((k : Int) + 1)) w4 :=
            ⟨k + 1, fr, ⟨st.sts, wrN st.l (k + 1), st.lab, st.at_, st.tx, st.op⟩, ss, tb, by rw [Hn.out]; omega, by go_num, rfl, by omega, Htb.out, by omega, (show st.sts.length + _ ≤ _ by omega), wrN_le hll (by rw [Hn.out]; omega), hat, hop, hR4, HD.out.kb hkb4 (by show ¬ w.heap.size = rb; omega), HL.out.kb hkb4 (by show ¬ lb = rb; omega), own_kb HO.out hkb4 (by omega), Hob.out, by rw [← Hq.out, Hst.out], KB.below HB.out hkb4 (by rintro i rfl; omega) (by omega)⟩
          have HP := Lib.hid hP
          clear hP hkb4 hR4
          go_wp2
          go_roundw
          case rel => exact HP.out
          case measure => simp [intOf]; omega
      · have hfl := foB_le x.data.toList st.op 33
        rw [data_len] at hfl
        obtain ⟨f, hf⟩ : ∃ f : Nat, f = foB x.data.toList st.op 33 := ⟨_, rfl⟩
        rw [← hf] at hfl
        have hf0 : (0 : Int) ≤ (f : Int) := by omega
        have hf1 : (f : Int) ≤ (x.size : Int) := by omega
        obtain ⟨p, hp⟩ : ∃ p : ByteArray, p = x.extract 0 f := ⟨_, rfl⟩
        have Hp := Lib.hid hp.symm
        have hps : p.size = f := by rw [hp, ByteArray.size_extract]; omega
        have hpd : p.data.toList = x.data.toList.take (foB x.data.toList st.op 33) := by rw [hp, Lib.extract_from_zero, hf]
        obtain ⟨X, hX⟩ : ∃ X : ByteArray, X = ⟨(Lib.trimRightB p.data.toList 32).toArray⟩ := ⟨_, rfl⟩
        have hXd : X.data.toList = nwX st x.data.toList := by rw [hX, hpd]; rfl
        have hXs : X.size ≤ x.size := by
          have := nwX_len st x.data.toList
          rw [← hXd, data_len, data_len] at this
          exact this
        have HF := Lib.hid (fun wx => show Calls Tryz.prog 51 #[.string x, .int .u8 (st.op : Int), .int .u8 ((33 : Nat) : Int)] wx (fun e w' => e = .returned (.int .i64 (f : Int)) ∧ wx = w') by
          rw [hf]; exact findOutside_c x (by omega) st.op 33 wx)
        have HTR := Lib.hid (fun wx => show Calls Tryz.prog 63 #[.string p, .string ⟨#[32]⟩] wx (fun e w' => e = .returned (.string X) ∧ wx = w') by
          rw [hX]; exact (Tryz.strings_TrimRight_one p 32 (by decide) wx (by omega)).mono fun e w' ⟨h1, h2⟩ => ⟨h1, h2.symm⟩)
        obtain ⟨q2, hq2⟩ : ∃ q2 : Bool, q2 = Lib.hasSuffix X.data.toList [38] := ⟨_, rfl⟩
        have HHS := Lib.hid (fun wx => show Calls Tryz.prog 50 #[.string X, .string ⟨#[38]⟩] wx (fun e w' => e = .returned (.bool q2) ∧ wx = w') by
          rw [hq2]; exact (Tryz.strings_HasSuffix X ⟨#[38]⟩ wx (by omega)).mono fun e w' ⟨h1, h2⟩ => ⟨h1, h2.symm⟩)
        have HXd := Lib.hid hXd
        have Hq2 := Lib.hid hq2
        have HCm := Lib.hid (fun wx => Comment_c x false wx)
        rw [Hcm.out] at HCm
        clear hp hpd hX hXd hq2 hf
        by_cases hfr0 : fr = 0
        · have hYd : X.data.toList = nwT2 st fr (nwX st x.data.toList) := by unfold nwT2; rw [if_pos hfr0, HXd.out]
          have hH : nwH st fr k (nwX st x.data.toList) = ⟨st.sts, st.l, st.lab, st.at_, st.tx, st.op⟩ := by unfold nwH; rw [if_pos hfr0]
          obtain ⟨lw, hlw⟩ : ∃ lw, lw = st.l := ⟨_, rfl⟩
          rw [← hlw] at hH
          have HR1 := HR
          rw [← hlw] at HR1
          have hlwn : lw ≤ xs.length := by omega
          have Hlw := Lib.hid hlw
          have HH := Lib.hid hH
          have HYd := Lib.hid hYd
          have hYs : X.size ≤ x.size + 1 := by omega
          have HB1 := HB
          have HL1 := HL
          have f1 : decide ((0 : Int) < (fr : Int)) = false := by simp; omega
          clear hYd hH hlw
          go_wp2_with fail
          refine (HCm.out _).mono ?_
          rintro e w2 ⟨rfl, rfl⟩
          go_wp2_with fail
          refine (HF.out _).mono ?_
          rintro e w2 ⟨rfl, rfl⟩
          go_wp2_with fail
          rw [Hp.out]
          refine (HTR.out _).mono ?_
          rintro e w2 ⟨rfl, rfl⟩
          go_wp2_with fail
          refine (HHS.out _).mono ?_
          rintro e w2 ⟨rfl, rfl⟩
          go_wp2_with fail
          have HD1 := HD; have HO1 := HO
          have hzl := trimSuffix_len X.data.toList [38]
          obtain ⟨Z, hZ⟩ : ∃ Z : ByteArray, Z = ⟨(Lib.trimSuffix X.data.toList [38]).toArray⟩ := ⟨_, rfl⟩
          have hZd : Z.data.toList = Lib.trimSuffix X.data.toList [38] := by rw [hZ]
          have hZs : Z.size ≤ x.size + 1 := by rw [← hZd, data_len, data_len] at hzl; omega
          have HTS := Lib.hid (fun wx => show Calls Tryz.prog 66 #[.string X, .string ⟨#[38]⟩] wx (fun e w' => e = .returned (.string Z) ∧ wx = w') by
            rw [hZ]; exact (Tryz.strings_TrimSuffix X ⟨#[38]⟩ wx (by omega)).mono fun e w' ⟨h1, h2⟩ => ⟨h1, h2.symm⟩)
          obtain ⟨D, hD⟩ : ∃ D, D = nwD st fr k (nwX st x.data.toList) := ⟨_, rfl⟩
          have hDp : D = ptP ⟨st.sts, lw, st.lab, st.at_, st.tx, st.op⟩ (k + 1) Z.data.toList := by rw [hD]; unfold nwD; rw [HH.out, hZd, ← HYd.out]
          have hk1 : k + 1 ≤ xs.length := by rw [Hn.out]; omega
          obtain ⟨b1, b2, b3, b4, b5⟩ := ptP_bd xs.length (k + 1) hk1 _ Z.data.toList ⟨st.sts, lw, st.lab, st.at_, st.tx, st.op⟩ (Nat.le_refl _) hlwn hat hop
          rw [← hDp] at b1 b2 b3 b4 b5
          rw [data_len] at b4 b5
          have c4 : D.sts.length ≤ st.sts.length + Z.size := b4
          have c5 : D.tx.length ≤ tb.size + Z.size := by rw [← data_len tb, Htb.out]; exact b5
          have b1' : D.l ≤ 40000 := by rw [Hn.out] at b1; omega
          have b2' : D.at_ ≤ 40000 := by rw [Hn.out] at b2; omega
          have hlw2 : lw ≤ 40000 := by rw [Hn.out] at hlwn; omega
          have HPC := Lib.hid (fun wx (hw : Below wr.heap.size wr wx) => part_c rb (rb + 1) ls ss ⟨st.sts, lw, st.lab, st.at_, st.tx, st.op⟩ tb Z (k + 1) wx (HR1.out.keep hw) (own_below HO1.out hw) (by omega) (by have := hw.size; omega)
            (show lw ≤ 800000 by omega) (by omega) (show st.at_ ≤ 800000 by omega) hop Htb.out (by omega) (show st.sts.length + Z.size ≤ 90000 by omega))
          rw [← hDp] at HPC
          have HDn := Lib.hid hD
          clear hzl hZ hZd hD hDp b4 b5
          go_region_with (first
            | (go_at_call 66; refine (HTS.out _).mono ?_; rintro e w6 ⟨rfl, rfl⟩)
            | (go_at_call 65; refine (HPC.out _ ?_).mono ?_; exact (Below.refl _ _).drew; rintro e w4 ⟨ss4, tb4, rfl, htb4, hR4, hO4, hob4, hk4⟩
               have hs4 : wr.heap.size ≤ w4.heap.size := hk4.size
               have hD4 := (HD1.out.keep ((Below.refl _ _).drew)).kb hk4 (fun e => e.elim (fun e => by omega) (fun e => Hob.out e.symm))
               obtain ⟨e0, e1, e2, e3⟩ := hD4.c4
               obtain ⟨g0, g1, g2, g3⟩ := hD4.f4))
          all_goals
            obtain ⟨w5, hw5⟩ : ∃ w5, w5 = (((w4.setCell ⟨w.heap.size, 0, none⟩ (.int .i64 (D.lab : Int))).setCell ⟨w.heap.size, 1, none⟩ (.int .i64 (D.at_ : Int))).setCell ⟨w.heap.size, 2, none⟩ (.string tb4)).setCell ⟨w.heap.size, 3, none⟩ (.int .u8 (D.op : Int)) := ⟨_, rfl⟩
            rw [← hw5]
            have hobl : ∀ g, ss.ownBlock = some g → rb + 1 ≤ g := fun g hg => (HO1.out.lt g hg).1
            have hob4' : ss4.ownBlock ≠ some w.heap.size := by
              rcases hob4 with e | ⟨g, hg, e⟩
              · rw [e]; exact Hob.out
              · rw [e]; intro h; cases h; have hg2 : wr.heap.size ≤ w.heap.size := hg; omega
            have hk5 : KB w4 w5 (fun k => k = w.heap.size) := by rw [hw5]; exact set4_kb _ _ _ _ _ _
            have HD5 := Lib.hid (show Has w5 w.heap.size [.int .i64 (D.lab : Int), .int .i64 (D.at_ : Int), .string tb4, .int .u8 (D.op : Int)] by rw [hw5]; exact (((hD4.set (i := 0)).set (i := 1)).set (i := 2)).set (i := 3))
            have HR5 := Lib.hid (hR4.kb hk5 (by show ¬ rb = w.heap.size; omega))
            have HO5 := Lib.hid (own_kb2 hO4 hk5 hob4')
            have HL5 := Lib.hid (((HL1.out.keep ((Below.refl _ _).drew)).kb hk4 (fun e => e.elim (fun e => by omega) (fun e => by have := hobl _ e.symm; omega))).kb hk5 (by show ¬ lb = w.heap.size; omega))
            have hB4 : Below rb w w4 := KB.below HB1.out.drew hk4 (by
              rintro i (h | h)
              · omega
              · have := hobl i h.symm; omega) (by show rb ≤ wr.heap.size; omega)
            have HB5 := Lib.hid (show Below rb w w5 from KB.below hB4 hk5 (by rintro i rfl; omega) (by omega))
            have hs5 : w4.heap.size ≤ w5.heap.size := hk5.size
            have Hob5 := Lib.hid hob4'
            have htb4s : tb4.size = D.tx.length := by rw [← data_len, htb4]
            have Htb4 := Lib.hid htb4
            clear hw5 hk5 hk4 hD4 hR4 hO4 hob4 hob4' hB4 e0 e1 e2 e3 g0 g1 g2 g3 d0 d1 d2 d3 htb4
            obtain ⟨d0, d1, d2, d3⟩ := HD5.out.c4
            have hcmn : ¬ cmQ x.data.toList false = true := by rw [Hcm.out]; decide
            rcases q2 with _ | _
            · have hst : nwStep (st, fr) k x.data.toList = (ptEnd D, 0) := by
                show (if cmQ x.data.toList false = true then _ else _) = _
                rw [if_neg hcmn, if_neg (by show ¬ Lib.hasSuffix (nwX st x.data.toList) [38] = true; rw [← HXd.out, ← Hq2.out]; decide)]
                show (ptEnd (nwD st fr k (nwX st x.data.toList)), 0) = _
                rw [← HDn.out]
              have Hst := Lib.hid hst
              clear hst
              go_wp2_with fail
              refine (endNew_c rb (rb + 1) ls ss4 D.sts D.l D.lab D.at_ tb4 D.op w5 HR5.out HO5.out (by omega) (by omega) (by omega) (by omega) (by omega) (by omega)).mono ?_
              rintro e w6 ⟨ss6, rfl, hR6, hO6, hob6, hk6⟩
              rw [Htb4.out] at hR6 hO6
              have hobl5 : ∀ g, ss4.ownBlock = some g → rb + 1 ≤ g := fun g hg => (HO5.out.lt g hg).1
              have hD6 := HD5.out.kb hk6 (fun e => e.elim (fun e => by omega) (fun e => Hob5.out e.symm))
              have HL6 := Lib.hid (HL5.out.kb hk6 (fun e => e.elim (fun e => by omega) (fun e => by have := hobl5 _ e.symm; omega)))
              have HB6 := Lib.hid (show Below rb w w6 from KB.below HB5.out hk6 (by
                rintro i (h | h)
                · omega
                · have := hobl5 i h.symm; omega) (by omega))
              have Hob6 := Lib.hid (show ss6.ownBlock ≠ some w.heap.size by
                rcases hob6 with e | ⟨g, hg, e⟩
                · rw [e]; exact Hob5.out
                · rw [e]; intro h; cases h; omega)
              have hs6 : w5.heap.size ≤ w6.heap.size := hk6.size
              have HR6 := Lib.hid hR6; have HO6 := Lib.hid hO6; have HD6 := Lib.hid hD6
              clear hR6 hO6 hob6 hk6 hobl5 d0 d1 d2 d3
              obtain ⟨d0, d1, d2, d3⟩ := hD6.c4
              obtain ⟨g0, g1, g2, g3⟩ := hD6.f4
              clear hD6
              go_wp2_with fail
              obtain ⟨w7, hw7⟩ : ∃ w7, w7 = (((w6.setCell ⟨w.heap.size, 0, none⟩ (.int .i64 0)).setCell ⟨w.heap.size, 1, none⟩ (.int .i64 0)).setCell ⟨w.heap.size, 2, none⟩ (.string ⟨#[]⟩)).setCell ⟨w.heap.size, 3, none⟩ (.int .u8 0) := ⟨_, rfl⟩
              rw [← hw7]
              have hk7 : KB w6 w7 (fun k => k = w.heap.size) := by rw [hw7]; exact set4_kb _ _ _ _ _ _
              have hD7 : Has w7 w.heap.size [.int .i64 0, .int .i64 0, .string ⟨#[]⟩, .int .u8 0] := by rw [hw7]; exact (((HD6.out.set (i := 0)).set (i := 1)).set (i := 2)).set (i := 3)
              have hln := enNS_len D.sts D.lab D.at_ D.tx
              have hwl := enNW_le (lab := D.lab) (L := D.tx) b1 b2
              have hP : NwRel xs lb rb w.heap.size ls st0 w (.int .i64 0) (.int .i64 ((k : Int) + 1)) w7 :=
                ⟨k + 1, 0, ⟨enNS D.sts D.lab D.at_ D.tx, enNW D.l D.lab D.at_ D.tx, 0, 0, [], 0⟩, ss6, ⟨#[]⟩, hk1, by go_num, rfl, Nat.zero_le _, rfl, (show 0 + wt _ ≤ 80000 by omega), (show (enNS D.sts D.lab D.at_ D.tx).length + wt _ ≤ 80000 by omega), hwl, Nat.zero_le _, (show 0 < 256 by decide),
                  HR6.out.kb hk7 (by show ¬ rb = w.heap.size; omega), hD7, HL6.out.kb hk7 (by show ¬ lb = w.heap.size; omega), own_kb2 HO6.out hk7 Hob6.out, Hob6.out, by rw [← Hq.out, Hst.out]; rfl, KB.below HB6.out hk7 (by rintro i rfl; omega) (by omega)⟩
              have HP := Lib.hid hP
              clear hP hk7 hD7 hw7 d0 d1 d2 d3 g0 g1 g2 g3
              go_roundw
              case rel => exact HP.out
              case measure => simp [intOf]; omega
            · have hst : nwStep (st, fr) k x.data.toList = (D, k + 1) := by
                show (if cmQ x.data.toList false = true then _ else _) = _
                rw [if_neg hcmn, if_pos (by show Lib.hasSuffix (nwX st x.data.toList) [38] = true; rw [← HXd.out, ← Hq2.out])]
                show (nwD st fr k (nwX st x.data.toList), k + 1) = _
                rw [← HDn.out]
              have hP : NwRel xs lb rb w.heap.size ls st0 w (.int .i64 ((k : Int) + 1)) (.int .i64 ((k : Int) + 1)) w5 :=
                ⟨k + 1, k + 1, D, ss4, tb4, hk1, by go_num, by go_num, Nat.le_refl _, Htb4.out, by omega, by omega, b1, b2, b3, HR5.out, HD5.out, HL5.out, HO5.out, Hob5.out, by rw [← Hq.out, hst], HB5.out⟩
              have HP := Lib.hid hP
              clear hP hst
              go_wp2
              go_roundw
              case rel => exact HP.out
              case measure => simp [intOf]; omega
        · obtain ⟨Y, hY⟩ : ∃ Y : ByteArray, Y = ⟨(jnT X.data.toList st.op).toArray⟩ := ⟨_, rfl⟩
          have hYd : Y.data.toList = nwT2 st fr (nwX st x.data.toList) := by unfold nwT2; rw [if_neg hfr0, ← HXd.out, hY]
          have hYs : Y.size ≤ x.size + 1 := by
            have h1 := jnT_len X.data.toList st.op
            have h2 : Y.size = (jnT X.data.toList st.op).length := by rw [hY]; rfl
            rw [data_len] at h1
            omega
          obtain ⟨lw, hlw⟩ : ∃ lw, lw = jnW st.l (k + 1) X.data.toList st.op := ⟨_, rfl⟩
          have hH : nwH st fr k (nwX st x.data.toList) = ⟨st.sts, lw, st.lab, st.at_, st.tx, st.op⟩ := by unfold nwH; rw [if_neg hfr0, hlw, HXd.out]
          have hlwn : lw ≤ xs.length := by rw [hlw]; exact jnW_le hll (by rw [Hn.out]; omega)
          have HJ := Lib.hid (joined_c rb ls ss st.l (k + 1) st.op X (by omega) wr HR.out (by omega))
          rw [← hY, ← hlw] at HJ
          have HH := Lib.hid hH
          have HYd := Lib.hid hYd
          have f1 : decide ((0 : Int) < (fr : Int)) = true := by simp; omega
          clear hYd hH hlw hY
          go_wp2_with fail
          refine (HCm.out _).mono ?_
          rintro e w2 ⟨rfl, rfl⟩
          go_wp2_with fail
          refine (HF.out _).mono ?_
          rintro e w2 ⟨rfl, rfl⟩
          go_wp2_with fail
          rw [Hp.out]
          refine (HTR.out _).mono ?_
          rintro e w2 ⟨rfl, rfl⟩
          go_wp2_with fail
          refine (HHS.out _).mono ?_
          rintro e w2 ⟨rfl, rfl⟩
          go_wp2_with fail
          refine HJ.out.mono ?_
          rintro e w1 ⟨rfl, hR1, hkj⟩
          have hsj : wr.heap.size ≤ w1.heap.size := hkj.size
          have HR1 := Lib.hid hR1
          have HD1 := Lib.hid (HD.out.kb hkj (by show ¬ w.heap.size = rb; omega))
          have HL1 := Lib.hid (HL.out.kb hkj (by show ¬ lb = rb; omega))
          have HO1 := Lib.hid (own_kb HO.out hkj (by omega))
          have HB1 := Lib.hid (show Below rb w w1 from KB.below HB.out hkj (by rintro i rfl; omega) (by omega))
          clear hR1 hkj d0 d1 d2 d3
          obtain ⟨d0, d1, d2, d3⟩ := HD1.out.c4
          go_wp2_with fail
          have hzl := trimSuffix_len Y.data.toList [38]
          obtain ⟨Z, hZ⟩ : ∃ Z : ByteArray, Z = ⟨(Lib.trimSuffix Y.data.toList [38]).toArray⟩ := ⟨_, rfl⟩
          have hZd : Z.data.toList = Lib.trimSuffix Y.data.toList [38] := by rw [hZ]
          have hZs : Z.size ≤ x.size + 1 := by rw [← hZd, data_len, data_len] at hzl; omega
          have HTS := Lib.hid (fun wx => show Calls Tryz.prog 66 #[.string Y, .string ⟨#[38]⟩] wx (fun e w' => e = .returned (.string Z) ∧ wx = w') by
            rw [hZ]; exact (Tryz.strings_TrimSuffix Y ⟨#[38]⟩ wx (by omega)).mono fun e w' ⟨h1, h2⟩ => ⟨h1, h2.symm⟩)
          obtain ⟨D, hD⟩ : ∃ D, D = nwD st fr k (nwX st x.data.toList) := ⟨_, rfl⟩
          have hDp : D = ptP ⟨st.sts, lw, st.lab, st.at_, st.tx, st.op⟩ (k + 1) Z.data.toList := by rw [hD]; unfold nwD; rw [HH.out, hZd, ← HYd.out]
          have hk1 : k + 1 ≤ xs.length := by rw [Hn.out]; omega
          obtain ⟨b1, b2, b3, b4, b5⟩ := ptP_bd xs.length (k + 1) hk1 _ Z.data.toList ⟨st.sts, lw, st.lab, st.at_, st.tx, st.op⟩ (Nat.le_refl _) hlwn hat hop
          rw [← hDp] at b1 b2 b3 b4 b5
          rw [data_len] at b4 b5
          have c4 : D.sts.length ≤ st.sts.length + Z.size := b4
          have c5 : D.tx.length ≤ tb.size + Z.size := by rw [← data_len tb, Htb.out]; exact b5
          have b1' : D.l ≤ 40000 := by rw [Hn.out] at b1; omega
          have b2' : D.at_ ≤ 40000 := by rw [Hn.out] at b2; omega
          have hlw2 : lw ≤ 40000 := by rw [Hn.out] at hlwn; omega
          have HPC := Lib.hid (fun wx (hw : Below w1.heap.size w1 wx) => part_c rb (rb + 1) ls ss ⟨st.sts, lw, st.lab, st.at_, st.tx, st.op⟩ tb Z (k + 1) wx (HR1.out.keep hw) (own_below HO1.out hw) (by omega) (by have := hw.size; omega)
            (show lw ≤ 800000 by omega) (by omega) (show st.at_ ≤ 800000 by omega) hop Htb.out (by omega) (show st.sts.length + Z.size ≤ 90000 by omega))
          rw [← hDp] at HPC
          have HDn := Lib.hid hD
          clear hzl hZ hZd hD hDp b4 b5
          go_region_with (first
            | (go_at_call 66; refine (HTS.out _).mono ?_; rintro e w6 ⟨rfl, rfl⟩)
            | (go_at_call 65; refine (HPC.out _ ?_).mono ?_; exact (Below.refl _ _).drew; rintro e w4 ⟨ss4, tb4, rfl, htb4, hR4, hO4, hob4, hk4⟩
               have hs4 : w1.heap.size ≤ w4.heap.size := hk4.size
               have hD4 := (HD1.out.keep ((Below.refl _ _).drew)).kb hk4 (fun e => e.elim (fun e => by omega) (fun e => Hob.out e.symm))
               obtain ⟨e0, e1, e2, e3⟩ := hD4.c4
               obtain ⟨g0, g1, g2, g3⟩ := hD4.f4))
          all_goals
            obtain ⟨w5, hw5⟩ : ∃ w5, w5 = (((w4.setCell ⟨w.heap.size, 0, none⟩ (.int .i64 (D.lab : Int))).setCell ⟨w.heap.size, 1, none⟩ (.int .i64 (D.at_ : Int))).setCell ⟨w.heap.size, 2, none⟩ (.string tb4)).setCell ⟨w.heap.size, 3, none⟩ (.int .u8 (D.op : Int)) := ⟨_, rfl⟩
            rw [← hw5]
            have hobl : ∀ g, ss.ownBlock = some g → rb + 1 ≤ g := fun g hg => (HO1.out.lt g hg).1
            have hob4' : ss4.ownBlock ≠ some w.heap.size := by
              rcases hob4 with e | ⟨g, hg, e⟩
              · rw [e]; exact Hob.out
              · rw [e]; intro h; cases h; have hg2 : w1.heap.size ≤ w.heap.size := hg; omega
            have hk5 : KB w4 w5 (fun k => k = w.heap.size) := by rw [hw5]; exact set4_kb _ _ _ _ _ _
            have HD5 := Lib.hid (show Has w5 w.heap.size [.int .i64 (D.lab : Int), .int .i64 (D.at_ : Int), .string tb4, .int .u8 (D.op : Int)] by rw [hw5]; exact (((hD4.set (i := 0)).set (i := 1)).set (i := 2)).set (i := 3))
            have HR5 := Lib.hid (hR4.kb hk5 (by show ¬ rb = w.heap.size; omega))
            have HO5 := Lib.hid (own_kb2 hO4 hk5 hob4')
            have HL5 := Lib.hid (((HL1.out.keep ((Below.refl _ _).drew)).kb hk4 (fun e => e.elim (fun e => by omega) (fun e => by have := hobl _ e.symm; omega))).kb hk5 (by show ¬ lb = w.heap.size; omega))
            have hB4 : Below rb w w4 := KB.below HB1.out.drew hk4 (by
              rintro i (h | h)
              · omega
              · have := hobl i h.symm; omega) (by show rb ≤ w1.heap.size; omega)
            have HB5 := Lib.hid (show Below rb w w5 from KB.below hB4 hk5 (by rintro i rfl; omega) (by omega))
            have hs5 : w4.heap.size ≤ w5.heap.size := hk5.size
            have Hob5 := Lib.hid hob4'
            have htb4s : tb4.size = D.tx.length := by rw [← data_len, htb4]
            have Htb4 := Lib.hid htb4
            clear hw5 hk5 hk4 hD4 hR4 hO4 hob4 hob4' hB4 e0 e1 e2 e3 g0 g1 g2 g3 d0 d1 d2 d3 htb4
            obtain ⟨d0, d1, d2, d3⟩ := HD5.out.c4
            have hcmn : ¬ cmQ x.data.toList false = true := by rw [Hcm.out]; decide
            rcases q2 with _ | _
            · have hst : nwStep (st, fr) k x.data.toList = (ptEnd D, 0) := by
                show (if cmQ x.data.toList false = true then _ else _) = _
                rw [if_neg hcmn, if_neg (by show ¬ Lib.hasSuffix (nwX st x.data.toList) [38] = true; rw [← HXd.out, ← Hq2.out]; decide)]
                show (ptEnd (nwD st fr k (nwX st x.data.toList)), 0) = _
                rw [← HDn.out]
              have Hst := Lib.hid hst
              clear hst
              go_wp2_with fail
              refine (endNew_c rb (rb + 1) ls ss4 D.sts D.l D.lab D.at_ tb4 D.op w5 HR5.out HO5.out (by omega) (by omega) (by omega) (by omega) (by omega) (by omega)).mono ?_
              rintro e w6 ⟨ss6, rfl, hR6, hO6, hob6, hk6⟩
              rw [Htb4.out] at hR6 hO6
              have hobl5 : ∀ g, ss4.ownBlock = some g → rb + 1 ≤ g := fun g hg => (HO5.out.lt g hg).1
              have hD6 := HD5.out.kb hk6 (fun e => e.elim (fun e => by omega) (fun e => Hob5.out e.symm))
              have HL6 := Lib.hid (HL5.out.kb hk6 (fun e => e.elim (fun e => by omega) (fun e => by have := hobl5 _ e.symm; omega)))
              have HB6 := Lib.hid (show Below rb w w6 from KB.below HB5.out hk6 (by
                rintro i (h | h)
                · omega
                · have := hobl5 i h.symm; omega) (by omega))
              have Hob6 := Lib.hid (show ss6.ownBlock ≠ some w.heap.size by
                rcases hob6 with e | ⟨g, hg, e⟩
                · rw [e]; exact Hob5.out
                · rw [e]; intro h; cases h; omega)
              have hs6 : w5.heap.size ≤ w6.heap.size := hk6.size
              have HR6 := Lib.hid hR6; have HO6 := Lib.hid hO6; have HD6 := Lib.hid hD6
              clear hR6 hO6 hob6 hk6 hobl5 d0 d1 d2 d3
              obtain ⟨d0, d1, d2, d3⟩ := hD6.c4
              obtain ⟨g0, g1, g2, g3⟩ := hD6.f4
              clear hD6
              go_wp2_with fail
              obtain ⟨w7, hw7⟩ : ∃ w7, w7 = (((w6.setCell ⟨w.heap.size, 0, none⟩ (.int .i64 0)).setCell ⟨w.heap.size, 1, none⟩ (.int .i64 0)).setCell ⟨w.heap.size, 2, none⟩ (.string ⟨#[]⟩)).setCell ⟨w.heap.size, 3, none⟩ (.int .u8 0) := ⟨_, rfl⟩
              rw [← hw7]
              have hk7 : KB w6 w7 (fun k => k = w.heap.size) := by rw [hw7]; exact set4_kb _ _ _ _ _ _
              have hD7 : Has w7 w.heap.size [.int .i64 0, .int .i64 0, .string ⟨#[]⟩, .int .u8 0] := by rw [hw7]; exact (((HD6.out.set (i := 0)).set (i := 1)).set (i := 2)).set (i := 3)
              have hln := enNS_len D.sts D.lab D.at_ D.tx
              have hwl := enNW_le (lab := D.lab) (L := D.tx) b1 b2
              have hP : NwRel xs lb rb w.heap.size ls st0 w (.int .i64 0) (.int .i64 ((k : Int) + 1)) w7 :=
                ⟨k + 1, 0, ⟨enNS D.sts D.lab D.at_ D.tx, enNW D.l D.lab D.at_ D.tx, 0, 0, [], 0⟩, ss6, ⟨#[]⟩, hk1, by go_num, rfl, Nat.zero_le _, rfl, (show 0 + wt _ ≤ 80000 by omega), (show (enNS D.sts D.lab D.at_ D.tx).length + wt _ ≤ 80000 by omega), hwl, Nat.zero_le _, (show 0 < 256 by decide),
                  HR6.out.kb hk7 (by show ¬ rb = w.heap.size; omega), hD7, HL6.out.kb hk7 (by show ¬ lb = w.heap.size; omega), own_kb2 HO6.out hk7 Hob6.out, Hob6.out, by rw [← Hq.out, Hst.out]; rfl, KB.below HB6.out hk7 (by rintro i rfl; omega) (by omega)⟩
              have HP := Lib.hid hP
              clear hP hk7 hD7 hw7 d0 d1 d2 d3 g0 g1 g2 g3
              go_roundw
              case rel => exact HP.out
              case measure => simp [intOf]; omega
            · have hst : nwStep (st, fr) k x.data.toList = (D, k + 1) := by
                show (if cmQ x.data.toList false = true then _ else _) = _
                rw [if_neg hcmn, if_pos (by show Lib.hasSuffix (nwX st x.data.toList) [38] = true; rw [← HXd.out, ← Hq2.out])]
                show (nwD st fr k (nwX st x.data.toList), k + 1) = _
                rw [← HDn.out]
              have hP : NwRel xs lb rb w.heap.size ls st0 w (.int .i64 ((k : Int) + 1)) (.int .i64 ((k : Int) + 1)) w5 :=
                ⟨k + 1, k + 1, D, ss4, tb4, hk1, by go_num, by go_num, Nat.le_refl _, Htb4.out, by omega, by omega, b1, b2, b3, HR5.out, HD5.out, HL5.out, HO5.out, Hob5.out, by rw [← Hq.out, hst], HB5.out⟩
              have HP := Lib.hid hP
              clear hP hst
              go_wp2
              go_roundw
              case rel => exact HP.out
              case measure => simp [intOf]; omega

    · obtain rfl : k = n := by omega
      have hst : nwAll xs 0 (st0, 0) = (st, fr) := by rw [← hq, List.drop_of_length_le (by omega)]; rfl
      have e1 : st1 = nwEnd (st, fr) := by rw [Hs1.out, hst]
      have hbl := hB.size
      have hdb := hD.lt
      obtain ⟨d0, d1, d2, d3⟩ := hD.c4
      have HB := Lib.hid hB; have HR := Lib.hid hR; have HD := Lib.hid hD; have HO := Lib.hid hO; have Htb := Lib.hid htb
      by_cases hz : fr = 0
      · have e2 : st1 = st := by rw [e1]; unfold nwEnd; rw [if_pos hz]
        have f1 : decide ((0 : Int) < (fr : Int)) = false := by simp; omega
        subst e2
        clear hq hst hR hD hL hO hob htb hB e1
        go_wp2
        go_end0
        exact ⟨ss, rfl, HR.out, HO.out, HB.out⟩
      · have e2 : st1 = ⟨enNS st.sts st.lab st.at_ st.tx, enNW (wrN st.l fr) st.lab st.at_ st.tx, 0, 0, [], 0⟩ := by rw [e1]; unfold nwEnd; rw [if_neg hz]; rfl
        have f1 : decide ((0 : Int) < (fr : Int)) = true := by simp; omega
        have hwn : wrN st.l fr ≤ 40000 := wrN_le hll2 (by omega)
        have hsl : st.sts.length ≤ 80000 := by omega
        have hts : tb.size ≤ 80000 := by omega
        have E2 := Lib.hid e2
        clear hq hst hR hD hL hO hob htb hB e1 e2
        go_wp2_with fail
        refine (wrong_c rb ls ss st.l fr wr HR.out (by omega)).mono ?_
        rintro e w4 ⟨rfl, hR4, hk4⟩
        have hs4 := hk4.size
        have hD4 := HD.out.kb hk4 (by show ¬ w.heap.size = rb; omega)
        have HO4 := Lib.hid (own_kb HO.out hk4 (by omega))
        have HB4 := Lib.hid (show Below rb w w4 from KB.below HB.out hk4 (by rintro i rfl; omega) (by omega))
        have HR4 := Lib.hid hR4
        clear hR4 hk4 d0 d1 d2 d3
        obtain ⟨d0, d1, d2, d3⟩ := hD4.c4
        clear hD4
        go_wp2_with fail
        refine (endNew_c rb (rb + 1) ls ss st.sts (wrN st.l fr) st.lab st.at_ tb st.op w4 HR4.out HO4.out (by omega) (by omega) (by omega) (by omega) (by omega) (by omega)).mono ?_
        rintro e w6 ⟨ss6, rfl, hR6, hO6, hob6, hk6⟩
        rw [Htb.out] at hR6 hO6
        have hobl5 : ∀ g, ss.ownBlock = some g → rb + 1 ≤ g := fun g hg => (HO4.out.lt g hg).1
        have HB6 := Lib.hid (show Below rb w w6 from KB.below HB4.out hk6 (by
          rintro i (h | h)
          · omega
          · have := hobl5 i h.symm; omega) (by omega))
        have HR6 := Lib.hid hR6; have HO6 := Lib.hid hO6
        clear hR6 hO6 hob6 hk6 hobl5 d0 d1 d2 d3
        go_wp2
        go_end0
        rw [E2.out]
        exact ⟨ss6, rfl, HR6.out, HO6.out, HB6.out⟩
end Go.Proofs.YtdandmbgdndnjaaGreatDoor

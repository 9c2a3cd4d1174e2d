/- Contract of part: all statements of a text are ended but the last one. -/
import Derived.Test.YtdandmbgdndnjaaGreatDoorNewB
namespace Go.Proofs.YtdandmbgdndnjaaGreatDoor
open Go.RowKit

/-- A piece is added to a draft, and a draft is ended. -/
def ptAdd (st : Ro) (at_ : Nat) (p : List UInt8) : Ro := ⟨st.sts, st.l, st.lab, if st.at_ = 0 ∧ (Lib.trimB p 32).isEmpty = false then at_ else st.at_, st.tx ++ p, opB p st.op⟩
def ptEnd (st : Ro) : Ro := ⟨enNS st.sts st.lab st.at_ st.tx, enNW st.l st.lab st.at_ st.tx, 0, 0, [], 0⟩
def ptP (st : Ro) (at_ : Nat) (t : List UInt8) : Ro :=
  if foB t st.op 59 < t.length then ptP (ptEnd (ptAdd st at_ (t.take (foB t st.op 59)))) at_ (t.drop (foB t st.op 59 + 1)) else ptAdd st at_ (t.take (foB t st.op 59))
  termination_by t.length
  decreasing_by rw [List.length_drop]; omega
theorem ptP_go {st : Ro} {at_ : Nat} {t : List UInt8} (h : foB t st.op 59 < t.length) : ptP st at_ t = ptP (ptEnd (ptAdd st at_ (t.take (foB t st.op 59)))) at_ (t.drop (foB t st.op 59 + 1)) := by rw [ptP, if_pos h]
theorem ptP_end {st : Ro} {at_ : Nat} {t : List UInt8} (h : ¬ foB t st.op 59 < t.length) : ptP st at_ t = ptAdd st at_ (t.take (foB t st.op 59)) := by rw [ptP, if_neg h]
theorem nwW_le {l a n : Nat} {L : List UInt8} (h1 : l ≤ n) (h2 : a ≤ n) : nwW l a L ≤ n := by
  unfold nwW
  split
  · exact h1
  · split
    · exact h1
    · exact wrN_le h1 h2
theorem enNW_le {l lab a n : Nat} {L : List UInt8} (h1 : l ≤ n) (h2 : a ≤ n) : enNW l lab a L ≤ n := enW_le (nwW_le h1 h2) h2
theorem enNS_len (sts : List St) (lab at_ : Nat) (tx : List UInt8) : (enNS sts lab at_ tx).length ≤ sts.length + 1 := by
  unfold enNS enS
  split
  · omega
  · split <;> simp
theorem KB.step {w w3 w4 : World} {rb : Nat} {ss ss' : Value} (h : KB w w3 (fun k => k = rb ∨ some k = ss.ownBlock)) (k4 : KB w3 w4 (fun k => k = rb ∨ some k = ss'.ownBlock)) (hob : ss'.ownBlock = ss.ownBlock ∨ ∃ g, w.heap.size ≤ g ∧ ss'.ownBlock = some g) :
    KB w w4 (fun k => k = rb ∨ some k = ss.ownBlock) :=
  ⟨k4.os.trans h.os, k4.tape.trans h.tape, k4.output.trans h.output, Nat.le_trans h.size k4.size, fun i hi hs => (k4.block i (Nat.lt_of_lt_of_le hi h.size) (by
    rintro (e | e)
    · exact hs (Or.inl e)
    · rcases hob with ho | ⟨g, hg, ho⟩
      · exact hs (Or.inr (e.trans ho))
      · rw [ho] at e; cases e; omega)).trans (h.block i hi hs)⟩
theorem KB.new {w w3 w4 : World} {S T : Nat → Prop} (h : KB w w3 S) (k4 : KB w3 w4 T) (ht : ∀ k, T k → w.heap.size ≤ k) : KB w w4 S :=
  ⟨k4.os.trans h.os, k4.tape.trans h.tape, k4.output.trans h.output, Nat.le_trans h.size k4.size, fun i hi hs => (k4.block i (Nat.lt_of_lt_of_le hi h.size) (fun e => by have := ht i e; omega)).trans (h.block i hi hs)⟩

/-- What part leaves. -/
def PtPost (rb B0 : Nat) (ls ss : Value) (st : Ro) (w : World) (e : Ending) (w' : World) : Prop :=
  ∃ (ss' : Value) (tb : ByteArray), e = .returned (.agg #[.int .i64 (st.lab : Int), .int .i64 (st.at_ : Int), .string tb, .int .u8 (st.op : Int)]) ∧ tb.data.toList = st.tx ∧ Has w' rb [ls, ss', .int .i64 (st.l : Int)] ∧
    w'.ownsRow B0 34 3 ss' st.sts.length (scells st.sts) ∧ (ss'.ownBlock = ss.ownBlock ∨ ∃ g, w.heap.size ≤ g ∧ ss'.ownBlock = some g) ∧ KB w w' (fun k => k = rb ∨ some k = ss.ownBlock)

/-- The relation at the head of part's loop. -/
def PRel (rb B0 b5 at_ tot : Nat) (ls ss : Value) (fin : Ro) (w : World) (t : Value) (wr : World) : Prop :=
  ∃ (ts tb : ByteArray) (st : Ro) (ss' : Value) (c0 c1 c2 c3 : Value), t = .string ts ∧ tb.data.toList = st.tx ∧ tb.size + ts.size ≤ 900000 ∧ st.sts.length + ts.size ≤ tot ∧ st.l ≤ 800000 ∧ st.at_ ≤ 800000 ∧ st.op < 256 ∧ ptP st at_ ts.data.toList = fin ∧
    Has wr rb [ls, ss', .int .i64 (st.l : Int)] ∧ Has wr b5 [.int .i64 (st.lab : Int), .int .i64 (st.at_ : Int), .string tb, .int .u8 (st.op : Int)] ∧ Has wr (b5 + 1) [c0, c1, c2, c3] ∧
    wr.ownsRow B0 34 3 ss' st.sts.length (scells st.sts) ∧ (ss'.ownBlock = ss.ownBlock ∨ ∃ g, w.heap.size ≤ g ∧ ss'.ownBlock = some g) ∧ ss'.ownBlock ≠ some b5 ∧ ss'.ownBlock ≠ some (b5 + 1) ∧ KB w wr (fun k => k = rb ∨ some k = ss.ownBlock)

set_option maxRecDepth 100000 in
set_option maxHeartbeats 4000000 in
theorem part_c (rb B0 : Nat) (ls ss : Value) (st : Ro) (tb s : ByteArray) (at_ : Nat) (w : World) (h : Has w rb [ls, ss, .int .i64 (st.l : Int)]) (ho : w.ownsRow B0 34 3 ss st.sts.length (scells st.sts))
    (hrb : rb < B0) (hB0 : B0 ≤ w.heap.size) (hl : st.l ≤ 800000) (hat : at_ ≤ 800000) (hsat : st.at_ ≤ 800000) (hop : st.op < 256) (htb : tb.data.toList = st.tx) (htx : tb.size + s.size ≤ 900000) (hn : st.sts.length + s.size ≤ 90000) :
    Calls Tryz.prog 65 #[.pointer (some ⟨rb, 0, none⟩), .agg #[.int .i64 (st.lab : Int), .int .i64 (st.at_ : Int), .string tb, .int .u8 (st.op : Int)], .string s, .int .i64 (at_ : Int)] w
      (PtPost rb B0 ls ss (ptP st at_ s.data.toList) w) := by
  obtain ⟨fin, hfin⟩ : ∃ fin, fin = ptP st at_ s.data.toList := ⟨_, rfl⟩
  rw [← hfin]
  have hrbl := h.lt
  have hbx : Has ((w.alloc (.cells #[.int .i64 (st.lab : Int), .int .i64 (st.at_ : Int), .string tb, .int .u8 (st.op : Int)] 82)).alloc (.cells #[.int .i64 0, .int .i64 0, .string ⟨#[]⟩, .int .u8 0] 82)) w.heap.size [.int .i64 (st.lab : Int), .int .i64 (st.at_ : Int), .string tb, .int .u8 (st.op : Int)] := (Has.new w [_, _, _, _] 82).alloc _
  have hby : Has ((w.alloc (.cells #[.int .i64 (st.lab : Int), .int .i64 (st.at_ : Int), .string tb, .int .u8 (st.op : Int)] 82)).alloc (.cells #[.int .i64 0, .int .i64 0, .string ⟨#[]⟩, .int .u8 0] 82)) (w.heap.size + 1) [.int .i64 0, .int .i64 0, .string ⟨#[]⟩, .int .u8 0] := by
    have := Has.new (w.alloc (.cells #[.int .i64 (st.lab : Int), .int .i64 (st.at_ : Int), .string tb, .int .u8 (st.op : Int)] 82)) [.int .i64 0, .int .i64 0, .string ⟨#[]⟩, .int .u8 0] 82
    rw [World.size_alloc] at this
    exact this
  have hB : Below w.heap.size w ((w.alloc (.cells #[.int .i64 (st.lab : Int), .int .i64 (st.at_ : Int), .string tb, .int .u8 (st.op : Int)] 82)).alloc (.cells #[.int .i64 0, .int .i64 0, .string ⟨#[]⟩, .int .u8 0] 82)) := ((Below.refl _ _).alloc (Nat.le_refl _) _).alloc (by simp) _
  have hob1 : ss.ownBlock ≠ some w.heap.size := by intro e; have := (ho.lt _ e).2; omega
  have hob2 : ss.ownBlock ≠ some (w.heap.size + 1) := by intro e; have := (ho.lt _ e).2; omega
  have hrel : PRel rb B0 w.heap.size at_ (st.sts.length + s.size) ls ss fin w (.string s) ((w.alloc (.cells #[.int .i64 (st.lab : Int), .int .i64 (st.at_ : Int), .string tb, .int .u8 (st.op : Int)] 82)).alloc (.cells #[.int .i64 0, .int .i64 0, .string ⟨#[]⟩, .int .u8 0] 82)) :=
    ⟨s, tb, st, ss, _, _, _, _, rfl, htb, htx, Nat.le_refl _, hl, hsat, hop, hfin.symm, h.keep hB, hbx, hby, own_below ho hB, Or.inl rfl, hob1, hob2, KB.of_below _ hB (Nat.le_refl _)⟩
  have Hrel := Lib.hid hrel
  clear hfin hbx hby hB hob1 hob2 hrel h ho htb
  go_enter Tryz.func65, Tryz.ntmps65
  go_wp2_with fail
  go_loopw [2] (fun t wr => PRel rb B0 w.heap.size at_ (st.sts.length + s.size) ls ss fin w t wr) (fun t _ => szOf t)
  case atStart => exact Hrel.out
  case round =>
    clear hl hsat hop htx
    obtain ⟨ts, tc, su, ss', c0, c1, c2, c3, rfl, htc, hsz, hsn, hl, hsat, hop, hq, hR, hD, hE, hO, hown, hob1, hob2, hK⟩ := hrel
    have hws := hK.size
    have hdl := hD.lt
    have hel := hE.lt
    obtain ⟨d0, d1, d2, d3⟩ := hD.c4
    obtain ⟨g0, g1, g2, g3⟩ := hD.f4
    obtain ⟨f, hf⟩ : ∃ f : Nat, f = foB ts.data.toList su.op 59 := ⟨_, rfl⟩
    have hfl := foB_le ts.data.toList su.op 59
    rw [← hf, data_len] at hfl
    have hf0 : (0 : Int) ≤ (f : Int) := by omega
    have hf1 : (f : Int) ≤ (ts.size : Int) := by omega
    have HF := Lib.hid (fun wx => show Calls Tryz.prog 51 #[.string ts, .int .u8 (su.op : Int), .int .u8 ((59 : Nat) : Int)] wx (fun e w' => e = .returned (.int .i64 (f : Int)) ∧ wx = w') by
      rw [hf]; exact findOutside_c ts (by omega) su.op 59 wx)
    have HFf := Lib.hid hf
    have HR := Lib.hid hR; have HD := Lib.hid hD; have HE := Lib.hid hE; have HO := Lib.hid hO; have Hown := Lib.hid hown; have Hob1 := Lib.hid hob1; have Hob2 := Lib.hid hob2; have HK := Lib.hid hK; have Hq := Lib.hid hq; have Htc := Lib.hid htc
    clear hf hR hD hE hO hown hob1 hob2 hK hq htc
    obtain ⟨p, hp⟩ : ∃ p : ByteArray, p = ts.extract 0 f := ⟨_, rfl⟩
    have Hp := Lib.hid hp.symm
    have Hps := Lib.hid (show p.size = f by rw [hp, ByteArray.size_extract]; omega)
    have Hpd := Lib.hid (show p.data.toList = ts.data.toList.take (foB ts.data.toList su.op 59) by rw [hp, Lib.extract_from_zero, HFf.out])
    clear hp
    by_cases h0 : su.at_ = 0
    · have f0 : ((su.at_ : Int) == 0) = true := by simp; omega
      obtain ⟨tr, htr⟩ : ∃ tr : ByteArray, tr = ⟨(Lib.trimB p.data.toList 32).toArray⟩ := ⟨_, rfl⟩
      have HT := Lib.hid (fun wx => Tryz.strings_Trim_one p 32 (by decide) wx (by have := Hps.out; omega))
      have Htr := Lib.hid htr
      have htd : tr.data.toList = Lib.trimB p.data.toList 32 := by rw [htr]
      clear htr
      by_cases h3 : tr.toList = []
      · have f3 : tr.toList.isEmpty = true := by rw [h3]; rfl
        have HAd := Lib.hid (show ptAdd su at_ p.data.toList = ⟨su.sts, su.l, su.lab, su.at_, su.tx ++ p.data.toList, opB p.data.toList su.op⟩ by
          unfold ptAdd; rw [if_neg]; rintro ⟨_, e⟩; rw [← htd, ← Lib.toList_data, f3] at e; cases e)
        obtain ⟨av, hav⟩ : ∃ av, av = su.at_ := ⟨_, rfl⟩
        have hav8 : av ≤ 800000 := by omega
        rw [← hav] at HAd
        have Hav := Lib.hid hav
        clear hav
        clear htd h3
        go_wp2_with fail
        refine (HF.out _).mono ?_
        rintro e w1 ⟨rfl, rfl⟩
        go_wp2_with fail
        rw [Hp.out]
        refine (HT.out _).mono ?_
        rw [← Htr.out]
        rintro e wv ⟨rfl, hw⟩
        have hBv : Below wr.heap.size wr wv := hw.elim (fun h => h ▸ Below.refl _ _) (fun h => h ▸ (Below.refl _ _).drew)
        have HDv := Lib.hid (HD.out.keep hBv)
        rw [← Hav.out] at HDv
        have HKv := Lib.hid (KB.of_below (fun k => k = w.heap.size) hBv (Nat.le_refl _))
        clear hw hBv
        go_wp2_with fail
        rw [Hp.out]
        have hpl := Hps.out
        refine (add_c w.heap.size _ _ tc p su.op wv HDv.out (by omega) (by omega)).mono ?_
        rintro e w2 ⟨rfl, hD2, hk2⟩
        have hKK : KB wr w2 (fun k => k = w.heap.size) := HKv.out.trans hk2
        have hs2 := hKK.size
        have HR2 := Lib.hid (HR.out.kb hKK (by show ¬ rb = w.heap.size; omega))
        have HE2 := Lib.hid (HE.out.kb hKK (by show ¬ w.heap.size + 1 = w.heap.size; omega))
        have HO2 := Lib.hid (own_kb2 HO.out hKK Hob1.out)
        have HK2 := Lib.hid (HK.out.new hKK (by rintro k rfl; exact Nat.le_refl _))
        have HD2 := Lib.hid hD2
        have Hob3 := Lib.hid (show w.heap.size < w2.heap.size ∧ w.heap.size + 1 < w2.heap.size by omega)
        clear hk2 hKK
        obtain ⟨d0, d1, d2, d3⟩ := hD2.c4
        obtain ⟨g0, g1, g2, g3⟩ := HE2.out.f4
        obtain ⟨x0, x1, x2, x3⟩ := HE2.out.c4
        clear hD2
        obtain ⟨ta, hta⟩ : ∃ ta : ByteArray, ta = tc ++ p := ⟨_, rfl⟩
        have Hta := Lib.hid (show ta.data.toList = su.tx ++ p.data.toList by rw [hta, ByteArray.data_append, Array.toList_append, Htc.out])
        have htas : ta.size = tc.size + p.size := by rw [hta, ByteArray.size_append]
        rw [← hta] at d2 HD2
        clear hta
        by_cases hlt : f = ts.size
        · have fe : ((f : Int) == (ts.size : Int)) = true := by simp; omega
          have fe2 : (f == ts.size) = true := by simp; omega
          go_wp2_with fail
          have hsx := hav8
          obtain ⟨wz, hwz⟩ : ∃ wz, wz = (((w2.setCell ⟨w.heap.size + 1, 0, none⟩ (.int .i64 (su.lab : Int))).setCell ⟨w.heap.size + 1, 1, none⟩ (.int .i64 (av : Int))).setCell ⟨w.heap.size + 1, 2, none⟩ (.string ta)).setCell ⟨w.heap.size + 1, 3, none⟩ (.int .u8 (opB p.data.toList su.op : Int)) := ⟨_, rfl⟩
          rw [← hwz]
          have hEz : Has wz (w.heap.size + 1) [.int .i64 (su.lab : Int), .int .i64 (av : Int), .string ta, .int .u8 (opB p.data.toList su.op : Int)] := by
            rw [hwz]; exact (((HE2.out.set (i := 0)).set (i := 1)).set (i := 2)).set (i := 3)
          have hkz : KB w2 wz (fun k => k = w.heap.size + 1) := by
            rw [hwz]; exact (((KB.set (S := fun k => k = w.heap.size + 1) _ rfl).trans (KB.set _ rfl)).trans (KB.set _ rfl)).trans (KB.set _ rfl)
          obtain ⟨z0, z1, z2, z3⟩ := hEz.c4
          refine bodyPost_ret (v := .agg #[.int .i64 (su.lab : Int), .int .i64 (av : Int), .string ta, .int .u8 (opB p.data.toList su.op : Int)]) (by simp [results, Tryz.results65, go_sem, z0, z1, z2, z3]) rfl ?_
          have hfin : fin = ⟨su.sts, su.l, su.lab, av, su.tx ++ p.data.toList, opB p.data.toList su.op⟩ := by
            rw [← Hq.out, ptP_end (by rw [← HFf.out, data_len]; omega), ← Hpd.out, HAd.out]
          rw [hfin]
          exact ⟨ss', ta, rfl, Hta.out, HR2.out.kb hkz (by show ¬ rb = w.heap.size + 1; omega), own_kb2 HO2.out hkz Hob2.out, Hown.out, HK2.out.new hkz (by rintro k rfl; omega)⟩

        · have fe : ((f : Int) == (ts.size : Int)) = false := by simp; omega
          have fe2 : (f == ts.size) = false := by simp; omega
          go_wp2_with fail
          refine (endNew_c rb B0 ls ss' su.sts su.l su.lab av ta _ w2 HR2.out HO2.out hrb (by omega) (by omega) (by omega) (by omega) (by omega)).mono ?_
          rintro e w3 ⟨ss3, rfl, hR3, hO3, hown3, hk3⟩
          have hs3 := hk3.size
          have hsb := Hob3.out
          have hD3 := HD2.out.kb hk3 (fun e => e.elim (fun e => by omega) (fun e => Hob1.out e.symm))
          have hE3 := HE2.out.kb hk3 (fun e => e.elim (fun e => by omega) (fun e => Hob2.out e.symm))
          have HK3 := Lib.hid (HK2.out.step hk3 Hown.out)
          have Hown3 := Lib.hid (show ss3.ownBlock = ss.ownBlock ∨ ∃ g, w.heap.size ≤ g ∧ ss3.ownBlock = some g by
            rcases hown3 with e | ⟨g, hg, e⟩
            · rw [e]; exact Hown.out
            · exact Or.inr ⟨g, by omega, e⟩)
          have Hob13 := Lib.hid (show ss3.ownBlock ≠ some w.heap.size by
            rcases hown3 with e | ⟨g, hg, e⟩
            · rw [e]; exact Hob1.out
            · rw [e]; intro h; cases h; omega)
          have Hob23 := Lib.hid (show ss3.ownBlock ≠ some (w.heap.size + 1) by
            rcases hown3 with e | ⟨g, hg, e⟩
            · rw [e]; exact Hob2.out
            · rw [e]; intro h; cases h; omega)
          have HR3 := Lib.hid hR3; have HO3 := Lib.hid hO3; have HD3 := Lib.hid hD3; have HE3 := Lib.hid hE3
          clear hk3 hown3 d0 d1 d2 d3 g0 g1 g2 g3 x0 x1 x2 x3 hR3 hO3 hE3
          obtain ⟨d0, d1, d2, d3⟩ := hD3.c4
          obtain ⟨g0, g1, g2, g3⟩ := hD3.f4
          clear hD3
          have hk1 : (0 : Int) ≤ (f : Int) + 1 := by omega
          have hk2 : (f : Int) + 1 ≤ (ts.size : Int) := by omega
          go_wp2_with fail
          go_region
          obtain ⟨wz, hwz⟩ : ∃ wz, wz = ((((w3.setCell ⟨w.heap.size, 0, none⟩ (.int .i64 0)).setCell ⟨w.heap.size, 1, none⟩ (.int .i64 0)).setCell ⟨w.heap.size, 2, none⟩ (.string ⟨#[]⟩)).setCell ⟨w.heap.size, 3, none⟩ (.int .u8 0)).drew := ⟨_, rfl⟩
          rw [← hwz]
          have hDz : Has wz w.heap.size [.int .i64 0, .int .i64 0, .string ⟨#[]⟩, .int .u8 0] := by
            rw [hwz]; exact (((((HD3.out.set (i := 0)).set (i := 1)).set (i := 2)).set (i := 3)).keep ((Below.refl _ _).drew))
          have hkz : KB w3 wz (fun k => k = w.heap.size) := by
            rw [hwz]; exact ((((KB.set (S := fun k => k = w.heap.size) _ rfl).trans (KB.set _ rfl)).trans (KB.set _ rfl)).trans (KB.set _ rfl)).trans (KB.of_below _ ((Below.refl _ _).drew) (Nat.le_refl _))
          have hgo : ptP (ptEnd (ptAdd su at_ p.data.toList)) at_ (ts.extract (f + 1) ts.size).data.toList = fin := by
            have e := Hq.out
            rw [ptP_go (by rw [← HFf.out, data_len]; omega), ← Hpd.out, ← HFf.out] at e
            rw [Lib.extract_to_end]; exact e
          have hen : ptEnd (ptAdd su at_ p.data.toList) = ⟨enNS su.sts su.lab av ta.data.toList, enNW su.l su.lab av ta.data.toList, 0, 0, [], 0⟩ := by
            rw [HAd.out, Hta.out]; rfl
          rw [hen] at hgo
          have hln := enNS_len su.sts su.lab av ta.data.toList
          have hwl := enNW_le (lab := su.lab) (L := ta.data.toList) hl hav8
          clear hwz
          have hP : PRel rb B0 w.heap.size at_ (st.sts.length + s.size) ls ss fin w (.string (ts.extract (f + 1) ts.size)) wz :=
            ⟨ts.extract (f + 1) ts.size, ⟨#[]⟩, (⟨enNS su.sts su.lab av ta.data.toList, enNW su.l su.lab av ta.data.toList, 0, 0, [], 0⟩ : Ro), ss3, c0, c1, c2, c3, rfl, rfl, by rw [ByteArray.size_extract]; show 0 + _ ≤ _; omega, by rw [ByteArray.size_extract]; show (enNS su.sts su.lab av ta.data.toList).length + _ ≤ _; omega, hwl, Nat.zero_le _, (show 0 < 256 by decide), hgo,
              HR3.out.kb hkz (by show ¬ rb = w.heap.size; omega), hDz, HE3.out.kb hkz (by show ¬ w.heap.size + 1 = w.heap.size; omega), own_kb2 HO3.out hkz Hob13.out, Hown3.out, Hob13.out, Hob23.out, HK3.out.new hkz (by rintro k rfl; exact Nat.le_refl _)⟩
          clear d0 d1 d2 d3 g0 g1 g2 g3 hDz
          refine ⟨⟨_, _, _, _, _, _, _, _, _, _, _, _, _, _, _, _, _, _, _, _, _, _, _, _, _, _, _, _, _, _, _, _, _, _, _, hP, rfl⟩, ?_⟩
          simp [szOf]; omega
      · have f3 : tr.toList.isEmpty = false := by rw [List.isEmpty_eq_false_iff]; exact h3
        obtain ⟨av, hav⟩ : ∃ av, av = at_ := ⟨_, rfl⟩
        have HAd := Lib.hid (show ptAdd su at_ p.data.toList = ⟨su.sts, su.l, su.lab, av, su.tx ++ p.data.toList, opB p.data.toList su.op⟩ by
          rw [hav]; unfold ptAdd; rw [if_pos ⟨h0, by rw [← htd, ← Lib.toList_data, f3]⟩])
        have hav8 : av ≤ 800000 := by omega
        have Hav := Lib.hid hav
        clear hav
        clear htd
        go_wp2_with fail
        refine (HF.out _).mono ?_
        rintro e w1 ⟨rfl, rfl⟩
        go_wp2_with fail
        rw [Hp.out]
        refine (HT.out _).mono ?_
        rw [← Htr.out]
        rintro e w4 ⟨rfl, hw⟩
        have hB4 : Below wr.heap.size wr w4 := hw.elim (fun h => h ▸ Below.refl _ _) (fun h => h ▸ (Below.refl _ _).drew)
        have hD4 := HD.out.keep hB4
        clear hw d0 d1 d2 d3 g0 g1 g2 g3
        obtain ⟨g0, g1, g2, g3⟩ := hD4.f4
        obtain ⟨d0, d1, d2, d3⟩ := hD4.c4
        go_wp2_with fail
        rw [Hp.out]
        obtain ⟨wv, hwv⟩ : ∃ wv, wv = w4.setCell ⟨w.heap.size, 1, none⟩ (.int .i64 (at_ : Int)) := ⟨_, rfl⟩
        rw [← hwv]
        have HDv := Lib.hid (show Has wv w.heap.size [.int .i64 (su.lab : Int), .int .i64 (av : Int), .string tc, .int .u8 (su.op : Int)] by rw [hwv, Hav.out]; exact hD4.set (i := 1))
        have HKv := Lib.hid ((KB.of_below (fun k => k = w.heap.size) hB4 (Nat.le_refl _)).trans (show KB w4 wv (fun k => k = w.heap.size) by rw [hwv]; exact KB.set _ rfl))
        clear hwv hB4 hD4 d0 d1 d2 d3 g0 g1 g2 g3
        have hpl := Hps.out
        refine (add_c w.heap.size _ _ tc p su.op wv HDv.out (by omega) (by omega)).mono ?_
        rintro e w2 ⟨rfl, hD2, hk2⟩
        have hKK : KB wr w2 (fun k => k = w.heap.size) := HKv.out.trans hk2
        have hs2 := hKK.size
        have HR2 := Lib.hid (HR.out.kb hKK (by show ¬ rb = w.heap.size; omega))
        have HE2 := Lib.hid (HE.out.kb hKK (by show ¬ w.heap.size + 1 = w.heap.size; omega))
        have HO2 := Lib.hid (own_kb2 HO.out hKK Hob1.out)
        have HK2 := Lib.hid (HK.out.new hKK (by rintro k rfl; exact Nat.le_refl _))
        have HD2 := Lib.hid hD2
        have Hob3 := Lib.hid (show w.heap.size < w2.heap.size ∧ w.heap.size + 1 < w2.heap.size by omega)
        clear hk2 hKK
        obtain ⟨d0, d1, d2, d3⟩ := hD2.c4
        obtain ⟨g0, g1, g2, g3⟩ := HE2.out.f4
        obtain ⟨x0, x1, x2, x3⟩ := HE2.out.c4
        clear hD2
        obtain ⟨ta, hta⟩ : ∃ ta : ByteArray, ta = tc ++ p := ⟨_, rfl⟩
        have Hta := Lib.hid (show ta.data.toList = su.tx ++ p.data.toList by rw [hta, ByteArray.data_append, Array.toList_append, Htc.out])
        have htas : ta.size = tc.size + p.size := by rw [hta, ByteArray.size_append]
        rw [← hta] at d2 HD2
        clear hta
        by_cases hlt : f = ts.size
        · have fe : ((f : Int) == (ts.size : Int)) = true := by simp; omega
          have fe2 : (f == ts.size) = true := by simp; omega
          go_wp2_with fail
          have hsx := hav8
          obtain ⟨wz, hwz⟩ : ∃ wz, wz = (((w2.setCell ⟨w.heap.size + 1, 0, none⟩ (.int .i64 (su.lab : Int))).setCell ⟨w.heap.size + 1, 1, none⟩ (.int .i64 (av : Int))).setCell ⟨w.heap.size + 1, 2, none⟩ (.string ta)).setCell ⟨w.heap.size + 1, 3, none⟩ (.int .u8 (opB p.data.toList su.op : Int)) := ⟨_, rfl⟩
          rw [← hwz]
          have hEz : Has wz (w.heap.size + 1) [.int .i64 (su.lab : Int), .int .i64 (av : Int), .string ta, .int .u8 (opB p.data.toList su.op : Int)] := by
            rw [hwz]; exact (((HE2.out.set (i := 0)).set (i := 1)).set (i := 2)).set (i := 3)
          have hkz : KB w2 wz (fun k => k = w.heap.size + 1) := by
            rw [hwz]; exact (((KB.set (S := fun k => k = w.heap.size + 1) _ rfl).trans (KB.set _ rfl)).trans (KB.set _ rfl)).trans (KB.set _ rfl)
          obtain ⟨z0, z1, z2, z3⟩ := hEz.c4
          refine bodyPost_ret (v := .agg #[.int .i64 (su.lab : Int), .int .i64 (av : Int), .string ta, .int .u8 (opB p.data.toList su.op : Int)]) (by simp [results, Tryz.results65, go_sem, z0, z1, z2, z3]) rfl ?_
          have hfin : fin = ⟨su.sts, su.l, su.lab, av, su.tx ++ p.data.toList, opB p.data.toList su.op⟩ := by
            rw [← Hq.out, ptP_end (by rw [← HFf.out, data_len]; omega), ← Hpd.out, HAd.out]
          rw [hfin]
          exact ⟨ss', ta, rfl, Hta.out, HR2.out.kb hkz (by show ¬ rb = w.heap.size + 1; omega), own_kb2 HO2.out hkz Hob2.out, Hown.out, HK2.out.new hkz (by rintro k rfl; omega)⟩

        · have fe : ((f : Int) == (ts.size : Int)) = false := by simp; omega
          have fe2 : (f == ts.size) = false := by simp; omega
          go_wp2_with fail
          refine (endNew_c rb B0 ls ss' su.sts su.l su.lab av ta _ w2 HR2.out HO2.out hrb (by omega) (by omega) (by omega) (by omega) (by omega)).mono ?_
          rintro e w3 ⟨ss3, rfl, hR3, hO3, hown3, hk3⟩
          have hs3 := hk3.size
          have hsb := Hob3.out
          have hD3 := HD2.out.kb hk3 (fun e => e.elim (fun e => by omega) (fun e => Hob1.out e.symm))
          have hE3 := HE2.out.kb hk3 (fun e => e.elim (fun e => by omega) (fun e => Hob2.out e.symm))
          have HK3 := Lib.hid (HK2.out.step hk3 Hown.out)
          have Hown3 := Lib.hid (show ss3.ownBlock = ss.ownBlock ∨ ∃ g, w.heap.size ≤ g ∧ ss3.ownBlock = some g by
            rcases hown3 with e | ⟨g, hg, e⟩
            · rw [e]; exact Hown.out
            · exact Or.inr ⟨g, by omega, e⟩)
          have Hob13 := Lib.hid (show ss3.ownBlock ≠ some w.heap.size by
            rcases hown3 with e | ⟨g, hg, e⟩
            · rw [e]; exact Hob1.out
            · rw [e]; intro h; cases h; omega)
          have Hob23 := Lib.hid (show ss3.ownBlock ≠ some (w.heap.size + 1) by
            rcases hown3 with e | ⟨g, hg, e⟩
            · rw [e]; exact Hob2.out
            · rw [e]; intro h; cases h; omega)
          have HR3 := Lib.hid hR3; have HO3 := Lib.hid hO3; have HD3 := Lib.hid hD3; have HE3 := Lib.hid hE3
          clear hk3 hown3 d0 d1 d2 d3 g0 g1 g2 g3 x0 x1 x2 x3 hR3 hO3 hE3
          obtain ⟨d0, d1, d2, d3⟩ := hD3.c4
          obtain ⟨g0, g1, g2, g3⟩ := hD3.f4
          clear hD3
          have hk1 : (0 : Int) ≤ (f : Int) + 1 := by omega
          have hk2 : (f : Int) + 1 ≤ (ts.size : Int) := by omega
          go_wp2_with fail
          go_region
          obtain ⟨wz, hwz⟩ : ∃ wz, wz = ((((w3.setCell ⟨w.heap.size, 0, none⟩ (.int .i64 0)).setCell ⟨w.heap.size, 1, none⟩ (.int .i64 0)).setCell ⟨w.heap.size, 2, none⟩ (.string ⟨#[]⟩)).setCell ⟨w.heap.size, 3, none⟩ (.int .u8 0)).drew := ⟨_, rfl⟩
          rw [← hwz]
          have hDz : Has wz w.heap.size [.int .i64 0, .int .i64 0, .string ⟨#[]⟩, .int .u8 0] := by
            rw [hwz]; exact (((((HD3.out.set (i := 0)).set (i := 1)).set (i := 2)).set (i := 3)).keep ((Below.refl _ _).drew))
          have hkz : KB w3 wz (fun k => k = w.heap.size) := by
            rw [hwz]; exact ((((KB.set (S := fun k => k = w.heap.size) _ rfl).trans (KB.set _ rfl)).trans (KB.set _ rfl)).trans (KB.set _ rfl)).trans (KB.of_below _ ((Below.refl _ _).drew) (Nat.le_refl _))
          have hgo : ptP (ptEnd (ptAdd su at_ p.data.toList)) at_ (ts.extract (f + 1) ts.size).data.toList = fin := by
            have e := Hq.out
            rw [ptP_go (by rw [← HFf.out, data_len]; omega), ← Hpd.out, ← HFf.out] at e
            rw [Lib.extract_to_end]; exact e
          have hen : ptEnd (ptAdd su at_ p.data.toList) = ⟨enNS su.sts su.lab av ta.data.toList, enNW su.l su.lab av ta.data.toList, 0, 0, [], 0⟩ := by
            rw [HAd.out, Hta.out]; rfl
          rw [hen] at hgo
          have hln := enNS_len su.sts su.lab av ta.data.toList
          have hwl := enNW_le (lab := su.lab) (L := ta.data.toList) hl hav8
          clear hwz
          have hP : PRel rb B0 w.heap.size at_ (st.sts.length + s.size) ls ss fin w (.string (ts.extract (f + 1) ts.size)) wz :=
            ⟨ts.extract (f + 1) ts.size, ⟨#[]⟩, (⟨enNS su.sts su.lab av ta.data.toList, enNW su.l su.lab av ta.data.toList, 0, 0, [], 0⟩ : Ro), ss3, c0, c1, c2, c3, rfl, rfl, by rw [ByteArray.size_extract]; show 0 + _ ≤ _; omega, by rw [ByteArray.size_extract]; show (enNS su.sts su.lab av ta.data.toList).length + _ ≤ _; omega, hwl, Nat.zero_le _, (show 0 < 256 by decide), hgo,
              HR3.out.kb hkz (by show ¬ rb = w.heap.size; omega), hDz, HE3.out.kb hkz (by show ¬ w.heap.size + 1 = w.heap.size; omega), own_kb2 HO3.out hkz Hob13.out, Hown3.out, Hob13.out, Hob23.out, HK3.out.new hkz (by rintro k rfl; exact Nat.le_refl _)⟩
          clear d0 d1 d2 d3 g0 g1 g2 g3 hDz
          refine ⟨⟨_, _, _, _, _, _, _, _, _, _, _, _, _, _, _, _, _, _, _, _, _, _, _, _, _, _, _, _, _, _, _, _, _, _, _, hP, rfl⟩, ?_⟩
          simp [szOf]; omega
    · have f0 : ((su.at_ : Int) == 0) = false := by simp; omega
      have HAd := Lib.hid (show ptAdd su at_ p.data.toList = ⟨su.sts, su.l, su.lab, su.at_, su.tx ++ p.data.toList, opB p.data.toList su.op⟩ by
        unfold ptAdd; rw [if_neg (fun h => h0 h.1)])
      obtain ⟨av, hav⟩ : ∃ av, av = su.at_ := ⟨_, rfl⟩
      have hav8 : av ≤ 800000 := by omega
      rw [← hav] at HAd
      have Hav := Lib.hid hav
      clear hav
      go_wp2_with fail
      refine (HF.out _).mono ?_
      rintro e wv ⟨rfl, rfl⟩
      have HDv := HD
      rw [← Hav.out] at HDv
      have HKv := Lib.hid (KB.refl wr (fun k => k = w.heap.size))
      go_wp2_with fail
      rw [Hp.out]
      have hpl := Hps.out
      refine (add_c w.heap.size _ _ tc p su.op wr HDv.out (by omega) (by omega)).mono ?_
      rintro e w2 ⟨rfl, hD2, hk2⟩
      have hKK : KB wr w2 (fun k => k = w.heap.size) := HKv.out.trans hk2
      have hs2 := hKK.size
      have HR2 := Lib.hid (HR.out.kb hKK (by show ¬ rb = w.heap.size; omega))
      have HE2 := Lib.hid (HE.out.kb hKK (by show ¬ w.heap.size + 1 = w.heap.size; omega))
      have HO2 := Lib.hid (own_kb2 HO.out hKK Hob1.out)
      have HK2 := Lib.hid (HK.out.new hKK (by rintro k rfl; exact Nat.le_refl _))
      have HD2 := Lib.hid hD2
      have Hob3 := Lib.hid (show w.heap.size < w2.heap.size ∧ w.heap.size + 1 < w2.heap.size by omega)
      clear hk2 hKK
      obtain ⟨d0, d1, d2, d3⟩ := hD2.c4
      obtain ⟨g0, g1, g2, g3⟩ := HE2.out.f4
      obtain ⟨x0, x1, x2, x3⟩ := HE2.out.c4
      clear hD2
      obtain ⟨ta, hta⟩ : ∃ ta : ByteArray, ta = tc ++ p := ⟨_, rfl⟩
      have Hta := Lib.hid (show ta.data.toList = su.tx ++ p.data.toList by rw [hta, ByteArray.data_append, Array.toList_append, Htc.out])
      have htas : ta.size = tc.size + p.size := by rw [hta, ByteArray.size_append]
      rw [← hta] at d2 HD2
      clear hta
      by_cases hlt : f = ts.size
      · have fe : ((f : Int) == (ts.size : Int)) = true := by simp; omega
        have fe2 : (f == ts.size) = true := by simp; omega
        go_wp2_with fail
        have hsx := hav8
        obtain ⟨wz, hwz⟩ : ∃ wz, wz = (((w2.setCell ⟨w.heap.size + 1, 0, none⟩ (.int .i64 (su.lab : Int))).setCell ⟨w.heap.size + 1, 1, none⟩ (.int .i64 (av : Int))).setCell ⟨w.heap.size + 1, 2, none⟩ (.string ta)).setCell ⟨w.heap.size + 1, 3, none⟩ (.int .u8 (opB p.data.toList su.op : Int)) := ⟨_, rfl⟩
        rw [← hwz]
        have hEz : Has wz (w.heap.size + 1) [.int .i64 (su.lab : Int), .int .i64 (av : Int), .string ta, .int .u8 (opB p.data.toList su.op : Int)] := by
          rw [hwz]; exact (((HE2.out.set (i := 0)).set (i := 1)).set (i := 2)).set (i := 3)
        have hkz : KB w2 wz (fun k => k = w.heap.size + 1) := by
          rw [hwz]; exact (((KB.set (S := fun k => k = w.heap.size + 1) _ rfl).trans (KB.set _ rfl)).trans (KB.set _ rfl)).trans (KB.set _ rfl)
        obtain ⟨z0, z1, z2, z3⟩ := hEz.c4
        refine bodyPost_ret (v := .agg #[.int .i64 (su.lab : Int), .int .i64 (av : Int), .string ta, .int .u8 (opB p.data.toList su.op : Int)]) (by simp [results, Tryz.results65, go_sem, z0, z1, z2, z3]) rfl ?_
        have hfin : fin = ⟨su.sts, su.l, su.lab, av, su.tx ++ p.data.toList, opB p.data.toList su.op⟩ := by
          rw [← Hq.out, ptP_end (by rw [← HFf.out, data_len]; omega), ← Hpd.out, HAd.out]
        rw [hfin]
        exact ⟨ss', ta, rfl, Hta.out, HR2.out.kb hkz (by show ¬ rb = w.heap.size + 1; omega), own_kb2 HO2.out hkz Hob2.out, Hown.out, HK2.out.new hkz (by rintro k rfl; omega)⟩

      · have fe : ((f : Int) == (ts.size : Int)) = false := by simp; omega
        have fe2 : (f == ts.size) = false := by simp; omega
        go_wp2_with fail
        refine (endNew_c rb B0 ls ss' su.sts su.l su.lab av ta _ w2 HR2.out HO2.out hrb (by omega) (by omega) (by omega) (by omega) (by omega)).mono ?_
        rintro e w3 ⟨ss3, rfl, hR3, hO3, hown3, hk3⟩
        have hs3 := hk3.size
        have hsb := Hob3.out
        have hD3 := HD2.out.kb hk3 (fun e => e.elim (fun e => by omega) (fun e => Hob1.out e.symm))
        have hE3 := HE2.out.kb hk3 (fun e => e.elim (fun e => by omega) (fun e => Hob2.out e.symm))
        have HK3 := Lib.hid (HK2.out.step hk3 Hown.out)
        have Hown3 := Lib.hid (show ss3.ownBlock = ss.ownBlock ∨ ∃ g, w.heap.size ≤ g ∧ ss3.ownBlock = some g by
          rcases hown3 with e | ⟨g, hg, e⟩
          · rw [e]; exact Hown.out
          · exact Or.inr ⟨g, by omega, e⟩)
        have Hob13 := Lib.hid (show ss3.ownBlock ≠ some w.heap.size by
          rcases hown3 with e | ⟨g, hg, e⟩
          · rw [e]; exact Hob1.out
          · rw [e]; intro h; cases h; omega)
        have Hob23 := Lib.hid (show ss3.ownBlock ≠ some (w.heap.size + 1) by
          rcases hown3 with e | ⟨g, hg, e⟩
          · rw [e]; exact Hob2.out
          · rw [e]; intro h; cases h; omega)
        have HR3 := Lib.hid hR3; have HO3 := Lib.hid hO3; have HD3 := Lib.hid hD3; have HE3 := Lib.hid hE3
        clear hk3 hown3 d0 d1 d2 d3 g0 g1 g2 g3 x0 x1 x2 x3 hR3 hO3 hE3
        obtain ⟨d0, d1, d2, d3⟩ := hD3.c4
        obtain ⟨g0, g1, g2, g3⟩ := hD3.f4
        clear hD3
        have hk1 : (0 : Int) ≤ (f : Int) + 1 := by omega
        have hk2 : (f : Int) + 1 ≤ (ts.size : Int) := by omega
        go_wp2_with fail
        go_region
        obtain ⟨wz, hwz⟩ : ∃ wz, wz = ((((w3.setCell ⟨w.heap.size, 0, none⟩ (.int .i64 0)).setCell ⟨w.heap.size, 1, none⟩ (.int .i64 0)).setCell ⟨w.heap.size, 2, none⟩ (.string ⟨#[]⟩)).setCell ⟨w.heap.size, 3, none⟩ (.int .u8 0)).drew := ⟨_, rfl⟩
        rw [← hwz]
        have hDz : Has wz w.heap.size [.int .i64 0, .int .i64 0, .string ⟨#[]⟩, .int .u8 0] := by
          rw [hwz]; exact (((((HD3.out.set (i := 0)).set (i := 1)).set (i := 2)).set (i := 3)).keep ((Below.refl _ _).drew))
        have hkz : KB w3 wz (fun k => k = w.heap.size) := by
          rw [hwz]; exact ((((KB.set (S := fun k => k = w.heap.size) _ rfl).trans (KB.set _ rfl)).trans (KB.set _ rfl)).trans (KB.set _ rfl)).trans (KB.of_below _ ((Below.refl _ _).drew) (Nat.le_refl _))
        have hgo : ptP (ptEnd (ptAdd su at_ p.data.toList)) at_ (ts.extract (f + 1) ts.size).data.toList = fin := by
          have e := Hq.out
          rw [ptP_go (by rw [← HFf.out, data_len]; omega), ← Hpd.out, ← HFf.out] at e
          rw [Lib.extract_to_end]; exact e
        have hen : ptEnd (ptAdd su at_ p.data.toList) = ⟨enNS su.sts su.lab av ta.data.toList, enNW su.l su.lab av ta.data.toList, 0, 0, [], 0⟩ := by
          rw [HAd.out, Hta.out]; rfl
        rw [hen] at hgo
        have hln := enNS_len su.sts su.lab av ta.data.toList
        have hwl := enNW_le (lab := su.lab) (L := ta.data.toList) hl hav8
        clear hwz
        have hP : PRel rb B0 w.heap.size at_ (st.sts.length + s.size) ls ss fin w (.string (ts.extract (f + 1) ts.size)) wz :=
          ⟨ts.extract (f + 1) ts.size, ⟨#[]⟩, (⟨enNS su.sts su.lab av ta.data.toList, enNW su.l su.lab av ta.data.toList, 0, 0, [], 0⟩ : Ro), ss3, c0, c1, c2, c3, rfl, rfl, by rw [ByteArray.size_extract]; show 0 + _ ≤ _; omega, by rw [ByteArray.size_extract]; show (enNS su.sts su.lab av ta.data.toList).length + _ ≤ _; omega, hwl, Nat.zero_le _, (show 0 < 256 by decide), hgo,
            HR3.out.kb hkz (by show ¬ rb = w.heap.size; omega), hDz, HE3.out.kb hkz (by show ¬ w.heap.size + 1 = w.heap.size; omega), own_kb2 HO3.out hkz Hob13.out, Hown3.out, Hob13.out, Hob23.out, HK3.out.new hkz (by rintro k rfl; exact Nat.le_refl _)⟩
        clear d0 d1 d2 d3 g0 g1 g2 g3 hDz
        refine ⟨⟨_, _, _, _, _, _, _, _, _, _, _, _, _, _, _, _, _, _, _, _, _, _, _, _, _, _, _, _, _, _, _, _, _, _, _, hP, rfl⟩, ?_⟩
        simp [szOf]; omega
end Go.Proofs.YtdandmbgdndnjaaGreatDoor

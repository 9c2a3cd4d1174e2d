/- Contract of endNew: a statement that has its label in its text is ended. -/
import Derived.Test.YtdandmbgdndnjaaGreatDoorSrcZ
namespace Go.Proofs.YtdandmbgdndnjaaGreatDoor
open Go.RowKit

/-- The label and the text of what was read, and whether the label is one. -/
def nwL (lab : Nat) (tx : List UInt8) : Nat := if (cutP (Lib.trimB tx 32)).1.isEmpty then lab else match lbP (cutP (Lib.trimB tx 32)).1 with | some n => n.toNat | none => 0
def nwT (tx : List UInt8) : List UInt8 := if (cutP (Lib.trimB tx 32)).1.isEmpty then tx else (cutP (Lib.trimB tx 32)).2
def nwW (l at_ : Nat) (tx : List UInt8) : Nat := if (cutP (Lib.trimB tx 32)).1.isEmpty then l else match lbP (cutP (Lib.trimB tx 32)).1 with | some _ => l | none => wrN l at_
/-- The statements and the least wrong line behind endNew. -/
def enNS (sts : List St) (lab at_ : Nat) (tx : List UInt8) : List St := enS sts (nwL lab tx) at_ (nwT tx)
def enNW (l lab at_ : Nat) (tx : List UInt8) : Nat := enW (nwW l at_ tx) (nwL lab tx) at_ (nwT tx)
theorem EndPost.of {rb B0 : Nat} {ls ss : Value} {sts : List St} {l : Nat} {w w5 : World} {e : Ending} {w' : World} (k : KB w w5 (fun k => k = rb ∨ some k = ss.ownBlock)) (h : EndPost rb B0 ls ss sts l w5 e w') : EndPost rb B0 ls ss sts l w e w' := by
  obtain ⟨ss', he, h1, h2, h3, h4⟩ := h
  refine ⟨ss', he, h1, h2, ?_, k.trans h4⟩
  rcases h3 with h3 | ⟨g, hg, h3⟩
  · exact Or.inl h3
  · exact Or.inr ⟨g, Nat.le_trans k.size hg, h3⟩
theorem cutP_len (L : List UInt8) : (cutP L).1.length ≤ L.length ∧ (cutP L).2.length ≤ L.length := by
  unfold cutP
  split
  · exact ⟨Nat.zero_le _, Nat.le_refl _⟩
  · refine ⟨by rw [List.length_take]; omega, ?_⟩
    have h1 := dR_len L
    have h2 := (List.dropWhile_sublist (l := dR L) (fun x => x == (32 : UInt8))).length_le
    show (List.dropWhile (fun x => x == (32 : UInt8)) (dR L)).length ≤ _
    omega

set_option maxRecDepth 100000 in
set_option maxHeartbeats 4000000 in
theorem endNew_c (rb B0 : Nat) (ls ss : Value) (sts : List St) (l lab at_ : Nat) (tx : ByteArray) (o : Nat) (w : World) (h : Has w rb [ls, ss, .int .i64 (l : Int)]) (ho : w.ownsRow B0 34 3 ss sts.length (scells sts))
    (hrb : rb < B0) (hB0 : B0 ≤ w.heap.size) (hl : l ≤ 900000) (hat : at_ ≤ 900000) (htx : tx.size ≤ 1000000) (hn : sts.length ≤ 100000) :
    Calls Tryz.prog 67 #[.pointer (some ⟨rb, 0, none⟩), .agg #[.int .i64 (lab : Int), .int .i64 (at_ : Int), .string tx, .int .u8 (o : Int)]] w
      (EndPost rb B0 ls ss (enNS sts lab at_ tx.data.toList) (enNW l lab at_ tx.data.toList) w) := by
  obtain ⟨t, ht⟩ : ∃ t : ByteArray, t = ⟨(Lib.trimB tx.data.toList 32).toArray⟩ := ⟨_, rfl⟩
  have htl : t.data.toList = Lib.trimB tx.data.toList 32 := by rw [ht]
  have hts : t.size ≤ 1000000 := by
    have := trimB_len tx.data.toList 32
    rw [← htl, data_len, data_len] at this
    omega
  obtain ⟨hc1, hc2⟩ := cutP_len t.data.toList
  rw [data_len] at hc1 hc2
  obtain ⟨d, hd⟩ : ∃ d : ByteArray, d = ⟨(cutP t.data.toList).1.toArray⟩ := ⟨_, rfl⟩
  obtain ⟨r, hr⟩ : ∃ r : ByteArray, r = ⟨(cutP t.data.toList).2.toArray⟩ := ⟨_, rfl⟩
  have hdd : d.data.toList = (cutP (Lib.trimB tx.data.toList 32)).1 := by rw [hd, htl]
  have hrd : r.data.toList = (cutP (Lib.trimB tx.data.toList 32)).2 := by rw [hr, htl]
  have hrs : r.size ≤ 1000000 := by
    have : r.size = (cutP t.data.toList).2.length := by rw [hr]; rfl
    omega
  have HT := Lib.hid (fun wx => Tryz.strings_Trim_one tx 32 (by decide) wx (by omega))
  have HC := Lib.hid (fun wx => cutLabel_c t hts wx)
  rw [← hd, ← hr] at HC
  have Ht := Lib.hid ht
  have Hdd := Lib.hid hdd; have Hrd := Lib.hid hrd
  have H := Lib.hid h; have Ho := Lib.hid ho
  have hbx := Has.new w [.int .i64 (lab : Int), .int .i64 (at_ : Int), .string tx, .int .u8 (o : Int)] 82
  have hBx : Below w.heap.size w (w.alloc (.cells #[.int .i64 (lab : Int), .int .i64 (at_ : Int), .string tx, .int .u8 (o : Int)] 82)) := (Below.refl _ _).alloc (Nat.le_refl _) _
  have Hbx := Lib.hid hbx
  obtain ⟨c0, c1, c2, c3⟩ := hbx.c4
  clear ht htl hd hr hdd hrd h ho hbx hc1 hc2
  by_cases h1 : d.toList = []
  · have f1 : d.toList.isEmpty = true := by rw [h1]; rfl
    have he : (cutP (Lib.trimB tx.data.toList 32)).1.isEmpty = true := by rw [← Hdd.out, ← Lib.toList_data, f1]
    have e1 : enNS sts lab at_ tx.data.toList = enS sts lab at_ tx.data.toList := by unfold enNS nwL nwT; rw [if_pos he, if_pos he]
    have e2 : enNW l lab at_ tx.data.toList = enW l lab at_ tx.data.toList := by unfold enNW nwW nwL nwT; rw [if_pos he, if_pos he, if_pos he]
    rw [e1, e2]
    clear e1 e2 he h1
    go_enter Tryz.func67, Tryz.ntmps67
    go_wp2_with fail
    refine (HT.out _).mono ?_
    rw [← Ht.out]
    rintro e w1 ⟨rfl, hw⟩
    have hB1 : Below (w.alloc (.cells #[.int .i64 (lab : Int), .int .i64 (at_ : Int), .string tx, .int .u8 (o : Int)] 82)).heap.size (w.alloc (.cells #[.int .i64 (lab : Int), .int .i64 (at_ : Int), .string tx, .int .u8 (o : Int)] 82)) w1 := hw.elim (fun h => h ▸ Below.refl _ _) (fun h => h ▸ (Below.refl _ _).drew)
    clear hw
    go_wp2_with fail
    refine (HC.out _).mono ?_
    rintro e w2 ⟨rfl, hB2⟩
    have hBB := bt_ hB1 hB2
    have hBw : Below w.heap.size w w2 := bt_ hBx hBB
    obtain ⟨d0, d1, d2, d3⟩ := (Hbx.out.keep hBB).c4
    have hs2 := hBw.size
    have HE := Lib.hid (end_c rb B0 ls ss sts l lab at_ tx o w2 (H.out.keep hBw) (own_below Ho.out hBw) hrb (by omega) (by omega) htx hn)
    have HK := Lib.hid (KB.of_below (fun k => k = rb ∨ some k = ss.ownBlock) hBw (Nat.le_refl _))
    clear c0 c1 c2 c3 hB1 hB2 hBB hBw hBx
    go_wp2_with fail
    refine HE.out.mono ?_
    intro e w3 hp
    have HP := Lib.hid (hp.of HK.out)
    obtain ⟨_, rfl, _⟩ := hp
    go_wp2
    go_end0
    exact HP.out
  · have f1 : d.toList.isEmpty = false := by rw [List.isEmpty_eq_false_iff]; exact h1
    have he : ¬ (cutP (Lib.trimB tx.data.toList 32)).1.isEmpty = true := by rw [← Hdd.out, ← Lib.toList_data, f1]; decide
    have hob : ss.ownBlock ≠ some w.heap.size := by
      intro e
      have := (Ho.out.lt _ e).2
      omega
    have HL := Lib.hid (fun wx => labelOf_c d wx)
    rcases hq : lbP (cutP (Lib.trimB tx.data.toList 32)).1 with _ | n
    · have e1 : enNS sts lab at_ tx.data.toList = enS sts 0 at_ r.data.toList := by unfold enNS nwL nwT; rw [if_neg he, if_neg he, hq, Hrd.out]
      have e2 : enNW l lab at_ tx.data.toList = enW (wrN l at_) 0 at_ r.data.toList := by unfold enNW nwW nwL nwT; rw [if_neg he, if_neg he, if_neg he, hq, Hrd.out]
      rw [e1, e2]
      have HQ := Lib.hid (show lbP d.data.toList = none by rw [Hdd.out]; exact hq)
      clear e1 e2 he h1 hq
      go_enter Tryz.func67, Tryz.ntmps67
      go_wp2_with fail
      refine (HT.out _).mono ?_
      rw [← Ht.out]
      rintro e w1 ⟨rfl, hw⟩
      have hB1 : Below (w.alloc (.cells #[.int .i64 (lab : Int), .int .i64 (at_ : Int), .string tx, .int .u8 (o : Int)] 82)).heap.size (w.alloc (.cells #[.int .i64 (lab : Int), .int .i64 (at_ : Int), .string tx, .int .u8 (o : Int)] 82)) w1 := hw.elim (fun h => h ▸ Below.refl _ _) (fun h => h ▸ (Below.refl _ _).drew)
      clear hw
      go_wp2_with fail
      refine (HC.out _).mono ?_
      rintro e w2 ⟨rfl, hB2⟩
      have hBB := bt_ hB1 hB2
      clear hB1 hB2
      go_wp2_with fail
      refine (HL.out _).mono ?_
      rw [HQ.out]
      rintro e w3 ⟨rfl, hB3⟩
      simp only [lbV]
      have hBB := bt_ hBB hB3
      have hBw : Below w.heap.size w w3 := bt_ hBx hBB
      have hD := Hbx.out.keep hBB
      obtain ⟨d0, d1, d2, d3⟩ := hD.c4
      have hsw := hBw.size
      have hdl := hD.lt
      clear c0 c1 c2 c3 hB3 hBx
      go_wp2_with fail
      refine (wrong_c rb ls ss l at_ w3 (H.out.keep hBw) (by omega)).mono ?_
      rintro e w5 ⟨rfl, hR5, hk5r⟩
      have hD5 := hD.kb hk5r (by show ¬ w.heap.size = rb; omega)
      have hO5 := own_kb (own_below Ho.out hBw) hk5r hrb
      have hk5 : KB w w5 (fun k => k = rb ∨ some k = ss.ownBlock) := (KB.of_below _ hBw (Nat.le_refl _)).trans (hk5r.mono fun k h => Or.inl h)
      clear d0 d1 d2 d3 hk5r hBB hBw hD
      obtain ⟨w6, hw6⟩ : ∃ w6, w6 = (w5.setCell ⟨w.heap.size, 0, none⟩ (.int .i64 0)).setCell ⟨w.heap.size, 2, none⟩ (.string r) := ⟨_, rfl⟩
      have hD6 : Has w6 w.heap.size [.int .i64 0, .int .i64 (at_ : Int), .string r, .int .u8 (o : Int)] := by rw [hw6]; exact (hD5.set (i := 0)).set (i := 2)
      have hk6 : KB w5 w6 (fun k => k = w.heap.size) := by rw [hw6]; exact (KB.set (S := fun k => k = w.heap.size) _ rfl).trans (KB.set _ rfl)
      have hR6 := hR5.kb hk6 (by show ¬ rb = w.heap.size; omega)
      have hO6 := own_kb2 hO5 hk6 hob
      have hb5 : KB w w5 (fun k => k = rb ∨ some k = ss.ownBlock) := hk5
      have hk06 : KB w w6 (fun k => k = rb ∨ some k = ss.ownBlock) := ⟨hk6.os.trans hb5.os, hk6.tape.trans hb5.tape, hk6.output.trans hb5.output, Nat.le_trans hb5.size hk6.size, fun i hi hs => (hk6.block i (Nat.lt_of_lt_of_le hi hb5.size) (by show ¬ i = w.heap.size; omega)).trans (hb5.block i hi hs)⟩
      have HK := Lib.hid hk06
      obtain ⟨d0, d1, d2, d3⟩ := hD5.c4
      obtain ⟨g0, g1, g2, g3⟩ := hD5.f4
      obtain ⟨e0, e1, e2, e3⟩ := hD6.c4
      have hs6 := hk06.size
      have HE := Lib.hid (end_c rb B0 ls ss sts (wrN l at_) 0 at_ r o w6 hR6 hO6 hrb (by omega) (wrN_le (by omega) (by omega)) hrs hn)
      clear hR5 hO5 hD5 hR6 hO6 hD6 hk6 hk5 hb5 hk06
      have Hw6 := Lib.hid hw6
      clear hw6
      go_wp2_with fail
      rw [← Hw6.out]
      refine HE.out.mono ?_
      intro e w7 hp
      have HP := Lib.hid (hp.of HK.out)
      obtain ⟨_, rfl, _⟩ := hp
      go_wp2
      go_end0
      exact HP.out
    · obtain ⟨hn0, hn9⟩ := lbP_le hq
      obtain ⟨m, rfl⟩ : ∃ m : Nat, n = (m : Int) := ⟨n.toNat, by omega⟩
      have e1 : enNS sts lab at_ tx.data.toList = enS sts m at_ r.data.toList := by unfold enNS nwL nwT; rw [if_neg he, if_neg he, hq, Hrd.out]; rfl
      have e2 : enNW l lab at_ tx.data.toList = enW l m at_ r.data.toList := by unfold enNW nwW nwL nwT; rw [if_neg he, if_neg he, if_neg he, hq, Hrd.out]; rfl
      rw [e1, e2]
      have HQ := Lib.hid (show lbP d.data.toList = some (m : Int) by rw [Hdd.out]; exact hq)
      clear e1 e2 he h1 hq
      go_enter Tryz.func67, Tryz.ntmps67
      go_wp2_with fail
      refine (HT.out _).mono ?_
      rw [← Ht.out]
      rintro e w1 ⟨rfl, hw⟩
      have hB1 : Below (w.alloc (.cells #[.int .i64 (lab : Int), .int .i64 (at_ : Int), .string tx, .int .u8 (o : Int)] 82)).heap.size (w.alloc (.cells #[.int .i64 (lab : Int), .int .i64 (at_ : Int), .string tx, .int .u8 (o : Int)] 82)) w1 := hw.elim (fun h => h ▸ Below.refl _ _) (fun h => h ▸ (Below.refl _ _).drew)
      clear hw
      go_wp2_with fail
      refine (HC.out _).mono ?_
      rintro e w2 ⟨rfl, hB2⟩
      have hBB := bt_ hB1 hB2
      clear hB1 hB2
      go_wp2_with fail
      refine (HL.out _).mono ?_
      rw [HQ.out]
      rintro e w3 ⟨rfl, hB3⟩
      simp only [lbV]
      have hBB := bt_ hBB hB3
      have hBw : Below w.heap.size w w3 := bt_ hBx hBB
      have hD5 := Hbx.out.keep hBB
      have hR5 := H.out.keep hBw
      have hO5 := own_below Ho.out hBw
      have hdl := hD5.lt
      have hsw := hBw.size
      have hk5 : KB w w3 (fun k => k = rb ∨ some k = ss.ownBlock) := KB.of_below _ hBw (Nat.le_refl _)
      clear c0 c1 c2 c3 hB3 hBx hBB hBw
      obtain ⟨w6, hw6⟩ : ∃ w6, w6 = (w3.setCell ⟨w.heap.size, 0, none⟩ (.int .i64 (m : Int))).setCell ⟨w.heap.size, 2, none⟩ (.string r) := ⟨_, rfl⟩
      have hD6 : Has w6 w.heap.size [.int .i64 (m : Int), .int .i64 (at_ : Int), .string r, .int .u8 (o : Int)] := by rw [hw6]; exact (hD5.set (i := 0)).set (i := 2)
      have hk6 : KB w3 w6 (fun k => k = w.heap.size) := by rw [hw6]; exact (KB.set (S := fun k => k = w.heap.size) _ rfl).trans (KB.set _ rfl)
      have hR6 := hR5.kb hk6 (by show ¬ rb = w.heap.size; omega)
      have hO6 := own_kb2 hO5 hk6 hob
      have hb5 : KB w w3 (fun k => k = rb ∨ some k = ss.ownBlock) := hk5
      have hk06 : KB w w6 (fun k => k = rb ∨ some k = ss.ownBlock) := ⟨hk6.os.trans hb5.os, hk6.tape.trans hb5.tape, hk6.output.trans hb5.output, Nat.le_trans hb5.size hk6.size, fun i hi hs => (hk6.block i (Nat.lt_of_lt_of_le hi hb5.size) (by show ¬ i = w.heap.size; omega)).trans (hb5.block i hi hs)⟩
      have HK := Lib.hid hk06
      obtain ⟨d0, d1, d2, d3⟩ := hD5.c4
      obtain ⟨g0, g1, g2, g3⟩ := hD5.f4
      obtain ⟨e0, e1, e2, e3⟩ := hD6.c4
      have hs6 := hk06.size
      have HE := Lib.hid (end_c rb B0 ls ss sts l m at_ r o w6 hR6 hO6 hrb (by omega) (by omega) hrs hn)
      clear hR5 hO5 hD5 hR6 hO6 hD6 hk6 hk5 hb5 hk06
      have Hw6 := Lib.hid hw6
      clear hw6
      go_wp2_with fail
      rw [← Hw6.out]
      refine HE.out.mono ?_
      intro e w7 hp
      have HP := Lib.hid (hp.of HK.out)
      obtain ⟨_, rfl, _⟩ := hp
      go_wp2
      go_end0
      exact HP.out
end Go.Proofs.YtdandmbgdndnjaaGreatDoor

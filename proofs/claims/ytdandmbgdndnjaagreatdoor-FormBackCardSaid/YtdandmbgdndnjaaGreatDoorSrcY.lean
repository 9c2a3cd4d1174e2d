/- Contract of readOld: the lines of the old form, one by one. -/
import Derived.Test.YtdandmbgdndnjaaGreatDoorSrcX
namespace Go.Proofs.YtdandmbgdndnjaaGreatDoor
open Go.RowKit

/-- The reader of the old form: statements, least wrong line, and the draft. -/
structure Ro where
  sts : List St
  l : Nat
  lab : Nat
  at_ : Nat
  tx : List UInt8
  op : Nat
/-- A line's head: whether it begins a statement, goes on, or is wrong. -/
def roHead (st : Ro) (k : Nat) (c : List UInt8) : Ro :=
  if bt c 5 = 32 ∨ bt c 5 = 48 then ⟨enS st.sts st.lab st.at_ st.tx, olW (Lib.trimB (c.take 5) 32) (enW st.l st.lab st.at_ st.tx) (k + 1), olL (Lib.trimB (c.take 5) 32), k + 1, [], 0⟩
  else if st.at_ = 0 then ⟨st.sts, wrN st.l (k + 1), st.lab, k + 1, st.tx, st.op⟩
  else if (Lib.trimB (c.take 5) 32).isEmpty = false then ⟨st.sts, wrN st.l (k + 1), st.lab, st.at_, st.tx, st.op⟩
  else st
def roAdd (st : Ro) (t : List UInt8) : Ro := ⟨st.sts, st.l, st.lab, st.at_, st.tx ++ t.take (foB t st.op 33), opB (t.take (foB t st.op 33)) st.op⟩
def roStep (st : Ro) (k : Nat) (L : List UInt8) : Ro := if cmQ L true = true then st else roAdd (roHead st k (fil L)) ((fil L).drop 6)
def roAll : List ByteArray → Nat → Ro → Ro
  | [], _, st => st
  | x :: xs, k, st => roAll xs (k + 1) (roStep st k x.data.toList)
theorem roAll_at {xs : List ByteArray} {x : ByteArray} {k : Nat} {st : Ro} (h : xs[k]? = some x) : roAll (xs.drop k) k st = roAll (xs.drop (k + 1)) (k + 1) (roStep st k x.data.toList) := by
  obtain ⟨hk, rfl⟩ := List.getElem?_eq_some_iff.1 h
  rw [List.drop_eq_getElem_cons hk]
  rfl
theorem foB_le : ∀ (L : List UInt8) (o q : Nat), foB L o q ≤ L.length
  | [], _, _ => Nat.le_refl _
  | c :: L, o, q => by
    rw [foB_cons, List.length_cons]
    split
    · omega
    · have := foB_le L (bh o c.toNat) q
      omega

/-- The relation at the head of readOld's loop. -/
def RRel (xs : List ByteArray) (lb rb db : Nat) (ls : Value) (st0 : Ro) (w : World) (t : Value) (wr : World) : Prop :=
  ∃ (k : Nat) (st : Ro) (ss : Value) (tb : ByteArray), k ≤ xs.length ∧ t = .int .i64 (k : Int) ∧ tb.data.toList = st.tx ∧ tb.size ≤ 66 * k ∧ st.sts.length ≤ k ∧ st.l ≤ xs.length ∧ st.at_ ≤ k ∧ st.op < 256 ∧
    Has wr rb [ls, ss, .int .i64 (st.l : Int)] ∧ Has wr db [.int .i64 (st.lab : Int), .int .i64 (st.at_ : Int), .string tb, .int .u8 (st.op : Int)] ∧ Has wr lb (xs.map .string) ∧
    wr.ownsRow (rb + 1) 34 3 ss st.sts.length (scells st.sts) ∧ ss.ownBlock ≠ some db ∧ roAll (xs.drop k) k st = roAll xs 0 st0 ∧ Below rb w wr

theorem contains_b (b : UInt8) : decide (0 ≤ Lib.indexByte [32, 48] b) = decide (b.toNat = 32 ∨ b.toNat = 48) := by
  unfold Lib.indexByte Lib.indexByte Lib.indexByte
  by_cases h1 : b = 32
  · subst h1; rfl
  · by_cases h2 : b = 48
    · subst h2; rfl
    · have e1 : ((32 : UInt8) == b) = false := by rw [beq_eq_false_iff_ne]; exact fun e => h1 e.symm
      have e2 : ((48 : UInt8) == b) = false := by rw [beq_eq_false_iff_ne]; exact fun e => h2 e.symm
      have n1 : ¬ b.toNat = 32 := fun e => h1 (UInt8.toNat_inj.1 e)
      have n2 : ¬ b.toNat = 48 := fun e => h2 (UInt8.toNat_inj.1 e)
      rw [e1, e2]
      simp [n1, n2]

theorem enW_le {l lab a n : Nat} {L : List UInt8} (h1 : l ≤ n) (h2 : a ≤ n) : enW l lab a L ≤ n := by
  unfold enW
  split
  · exact h1
  · split
    · exact h1
    · exact wrN_le h1 h2
theorem olW_le {l a n : Nat} {L : List UInt8} (h1 : l ≤ n) (h2 : a ≤ n) : olW L l a ≤ n := by
  unfold olW
  split
  · exact h1
  · split
    · exact h1
    · exact wrN_le h1 h2
theorem enS_len (sts : List St) (lab a : Nat) (L : List UInt8) : (enS sts lab a L).length ≤ sts.length + 1 := by
  unfold enS
  split
  · omega
  · split <;> simp
theorem set4_kb (w5 : World) (db : Nat) (a b c d : Value) : KB w5 ((((w5.setCell ⟨db, 0, none⟩ a).setCell ⟨db, 1, none⟩ b).setCell ⟨db, 2, none⟩ c).setCell ⟨db, 3, none⟩ d) (fun k => k = db) :=
  (((KB.set (S := fun k => k = db) a rfl).trans (KB.set b rfl)).trans (KB.set c rfl)).trans (KB.set d rfl)
theorem own_kb2 {w w' : World} {b db : Nat} {e : TypeId} {sz n : Nat} {v : Value} {xs : List Value} (h : w.ownsRow b e sz v n xs) (hk : KB w w' (fun k => k = db)) (hb : v.ownBlock ≠ some db) : w'.ownsRow b e sz v n xs := by
  have hlt := h.lt
  refine ⟨h.1, ?_⟩
  rcases h.2 with h0 | ⟨g, cap, cur, rfl, hg, hc, hr⟩
  · exact .inl h0
  · exact .inr ⟨g, cap, cur, rfl, hg, (hk.block g (hlt g rfl).2 (fun e => hb (by rw [← e]; rfl))).trans hc, hr⟩

/-- What readOld leaves. -/
def RoPost (rb : Nat) (ls : Value) (sts : List St) (l : Nat) (w : World) (e : Ending) (w' : World) : Prop :=
  ∃ ss, e = .returned (.tuple #[]) ∧ Has w' rb [ls, ss, .int .i64 (l : Int)] ∧ w'.ownsRow (rb + 1) 34 3 ss sts.length (scells sts) ∧ Below rb w w'
theorem fil_at (L : List UInt8) (c : ByteArray) (hc : c = ⟨(fil L).toArray⟩) : ∃ b : UInt8, c.extract 5 6 = ⟨#[b]⟩ ∧ b.toNat = bt (fil L) 5 := by
  have hl := fil_len L
  refine ⟨(fil L)[5]'(by omega), ?_, ?_⟩
  · rw [← Lib.mk_data (c.extract 5 6), Lib.extract_data, hc]
    show (⟨((((fil L).drop 5).take 1).toArray)⟩ : ByteArray) = _
    rw [List.drop_eq_getElem_cons (by omega)]
    rfl
  · unfold bt
    rw [List.getD_eq_getElem?_getD, List.getElem?_eq_getElem (by omega)]
    rfl

set_option maxRecDepth 100000 in
set_option maxHeartbeats 4000000 in
theorem readOld_c (xs : List ByteArray) (lb rb l0 : Nat) (ls : Value) (n c : Nat) (w : World) (hls : ls = .slice (some ⟨lb, 0, none⟩) n c) (hn : xs.length = n) (hn9 : n ≤ 10000) (hx9 : ∀ x ∈ xs, x.size ≤ 1000000)
    (hl : l0 ≤ n) (hlr : lb < rb) (hr : Has w rb [ls, .slice none 0 0, .int .i64 (l0 : Int)]) (hL : Has w lb (xs.map .string)) (st0 st1 : Ro) (hst0 : st0 = ⟨[], l0, 0, 0, [], 0⟩) (hst1 : st1 = roAll xs 0 st0) :
    Calls Tryz.prog 38 #[.pointer (some ⟨rb, 0, none⟩)] w (RoPost rb ls (enS st1.sts st1.lab st1.at_ st1.tx) (enW st1.l st1.lab st1.at_ st1.tx) w) := by
  have hr0 := hr.c3.1
  have hrl := hr.lt
  have hRR : RRel xs lb rb w.heap.size ls st0 w (.int .i64 0) (w.alloc (.cells #[.int .i64 0, .int .i64 0, .string ⟨#[]⟩, .int .u8 0] 82)) := by
    subst hst0
    exact ⟨0, ⟨[], l0, 0, 0, [], 0⟩, .slice none 0 0, ⟨#[]⟩, by omega, rfl, rfl, by decide, Nat.le_refl 0, (show l0 ≤ xs.length by omega), Nat.le_refl 0, (show 0 < 256 by omega), hr.alloc _, Has.new w _ 82, hL.alloc _, World.ownsRow_nil _ _ _ _, by simp [Value.ownBlock], by rw [List.drop_zero], (Below.refl _ _).alloc (by omega) _⟩
  have HRR := Lib.hid hRR; have Hn := Lib.hid hn; have Hx := Lib.hid hx9; have Hs1 := Lib.hid hst1; have Hls := Lib.hid hls
  have hr0' := hr0
  rw [hls] at hr0'
  clear hr hL hn hx9 hRR hst1 hst0 hr0
  go_enter Tryz.func38, Tryz.ntmps38
  go_wp2_with fail
  go_loopw [13] (fun t wr => RRel xs lb rb w.heap.size ls st0 w t wr) (fun t _ => n - (intOf t).toNat)
  case atStart => exact HRR.out
  case round =>
    obtain ⟨k, st, ss, tb, hk, rfl, htb, htbs, hsl, hll, hat, hop, hR, hD, hL, hO, hob, hq, hB⟩ := hrel
    have hxl := Hn.out
    have hkn : k ≤ n := by omega
    clear hr0'
    by_cases hlt : k < n
    · obtain ⟨x, hx⟩ : ∃ x, xs[k]? = some x := ⟨_, List.getElem?_eq_getElem (by omega)⟩
      have hcx : wr.cell? ⟨lb, k, none⟩ = some (.string x) := (hL k _ (by rw [List.getElem?_map, hx]; rfl)).1
      have hxs : x.size ≤ 1000000 := Hx.out x (List.mem_of_getElem? hx)
      have hc0 : (0 : Int) ≤ (k : Int) := by omega
      rw [roAll_at hx] at hq
      have HR := Lib.hid hR; have HD := Lib.hid hD; have HL := Lib.hid hL; have HO := Lib.hid hO; have Hob := Lib.hid hob; have Hq := Lib.hid hq; have Htb := Lib.hid htb
      clear hR hD hL hO hob hq htb hx hxl
      generalize hcm : cmQ x.data.toList true = q
      have Hcm := Lib.hid hcm
      clear hcm
      cases q
      rotate_left
      · go_wp2_with fail
        refine (Comment_c x true wr).mono ?_
        rw [Hcm.out]
        rintro e w2 ⟨rfl, rfl⟩
        go_wp2
        go_roundw
        case rel => exact ⟨k + 1, st, ss, tb, by rw [Hn.out]; omega, by go_num, Htb.out, by omega, by omega, hll, by omega, hop, HR.out, HD.out, HL.out, HO.out, Hob.out, by rw [show roStep st k x.data.toList = st by unfold roStep; rw [if_pos Hcm.out]] at Hq; exact Hq.out, hB⟩
        case measure => simp [intOf]; omega
      · have hstep : roStep st k x.data.toList = roAdd (roHead st k (fil x.data.toList)) ((fil x.data.toList).drop 6) := by unfold roStep; rw [if_neg (by rw [Hcm.out]; decide)]
        have Hstep := Lib.hid hstep
        clear hstep
        obtain ⟨c', hc'⟩ : ∃ c' : ByteArray, c' = ⟨(fil x.data.toList).toArray⟩ := ⟨_, rfl⟩
        have hcd : c'.data.toList = fil x.data.toList := by rw [hc']
        have hcs : c'.size = 72 := by rw [← data_len, hcd, fil_len]
        have hcs1 : 72 ≤ c'.size := by omega
        have hcs2 : c'.size ≤ 72 := by omega
        obtain ⟨b, hb, hbt⟩ := fil_at x.data.toList c' hc'
        obtain ⟨lbs, hlbs⟩ : ∃ lbs : ByteArray, lbs = ⟨(Lib.trimB ((fil x.data.toList).take 5) 32).toArray⟩ := ⟨_, rfl⟩
        have e5 : (c'.extract 0 5).data.toList = (fil x.data.toList).take 5 := by rw [Lib.extract_data, hcd]; rfl
        obtain ⟨t6, ht6⟩ : ∃ t6 : ByteArray, t6 = c'.extract 6 c'.size := ⟨_, rfl⟩
        have ht6d : t6.data.toList = (fil x.data.toList).drop 6 := by
          rw [ht6, Lib.extract_to_end, hcd]
        have ht6s : t6.size = 66 := by rw [← data_len, ht6d, List.length_drop, fil_len]
        have ht6a : t6.size ≤ 66 := by omega
        have HF := Lib.hid (fun wx => filled_c x hxs wx)
        have Hc' := Lib.hid hc'
        have Hb := Lib.hid hb
        have Hbt := Lib.hid hbt
        have Hlbs := Lib.hid hlbs
        have H5 := Lib.hid e5
        have Ht6 := Lib.hid ht6.symm
        have Ht6d := Lib.hid ht6d
        obtain ⟨q, hq2⟩ : ∃ q : Bool, q = decide (bt (fil x.data.toList) 5 = 32 ∨ bt (fil x.data.toList) 5 = 48) := ⟨_, rfl⟩
        have HC := Lib.hid (fun wx => show Calls Tryz.prog 31 #[.string ⟨#[32, 48]⟩, .string ⟨#[b]⟩] wx (fun e w' => e = .returned (.bool q) ∧ wx = w') by
          rw [hq2, ← hbt, ← contains_b]; exact (Tryz.strings_Contains_one ⟨#[32, 48]⟩ b wx).mono fun e w' ⟨h1, h2⟩ => ⟨h1, h2.symm⟩)
        have Hq2 := Lib.hid hq2
        have HTr := Lib.hid (fun wx => Tryz.strings_Trim_one (c'.extract 0 5) 32 (by decide) wx (by rw [ByteArray.size_extract]; omega))
        clear hc' hb hbt hlbs e5 ht6 ht6d ht6s hcs hcd hq2
        go_wp2_with fail
        refine (Comment_c x true wr).mono ?_
        rw [Hcm.out]
        rintro e w2 ⟨rfl, rfl⟩
        go_wp2_with fail
        refine (HF.out _).mono ?_
        rw [← Hc'.out]
        rintro e w2 ⟨rfl, hB2⟩
        go_wp2_with fail
        refine (HTr.out _).mono ?_
        rw [H5.out, ← Hlbs.out]
        rintro e w3 ⟨rfl, hw3⟩
        have hB3 : Below wr.heap.size wr w3 := hw3.elim (fun h => h ▸ hB2) (fun h => h ▸ hB2.drew)
        clear hw3 hB2
        go_wp2_with fail
        rw [Hb.out]
        refine (HC.out _).mono ?_
        rintro e w4 ⟨rfl, rfl⟩
        have hR := HR.out.keep hB3
        have hD := HD.out.keep hB3
        have hL := HL.out.keep hB3
        have hO := own_below HO.out hB3
        have hBB := hB.trans (hB3.mono (by have := hB.size; omega))
        obtain ⟨d0, d1, d2, d3⟩ := hD.c4
        have hdb : w.heap.size < w3.heap.size := hD.lt
        have hobl : ∀ g, ss.ownBlock = some g → rb + 1 ≤ g := fun g hg => (hO.lt g hg).1
        have Hobl := Lib.hid hobl
        have hll2 : st.l ≤ 10000 := by rw [Hn.out] at hll; omega
        have htb9 : tb.size ≤ 1000000 := by omega
        clear hobl
        cases q
        · skip
          have HR3 := Lib.hid hR; have HD3 := Lib.hid hD; have HL3 := Lib.hid hL; have HO3 := Lib.hid hO; have HB3 := Lib.hid hBB
          obtain ⟨g0, g1, g2, g3⟩ := hD.f4
          have hlb : lbs.data.toList = Lib.trimB ((fil x.data.toList).take 5) 32 := by rw [Hlbs.out]
          have hbt2 : ¬ (bt (fil x.data.toList) 5 = 32 ∨ bt (fil x.data.toList) 5 = 48) := of_decide_eq_false Hq2.out.symm
          clear hR hL hO hB3 hB hD hBB
          by_cases h0 : st.at_ = 0
          · have f0 : ((st.at_ : Int) == 0) = true := by simp; omega
            have Hst2 := Lib.hid (show roHead st k (fil x.data.toList) = ⟨st.sts, wrN st.l (k + 1), st.lab, k + 1, st.tx, st.op⟩ by unfold roHead; rw [if_neg hbt2, if_pos h0])
            clear hbt2 hlb h0
            go_wp2_with fail
            refine (wrong_c rb ls ss st.l (k + 1) w3 HR3.out (by omega)).mono ?_
            rintro e w4 ⟨rfl, hR4, hkb4⟩
            have hL4 := HL3.out.kb hkb4 (by show ¬ lb = rb; omega)
            have hD4 := HD3.out.kb hkb4 (by show ¬ w.heap.size = rb; omega)
            have hO4 := own_kb HO3.out hkb4 (by omega)
            have hB4 : Below rb w w4 := KB.below HB3.out hkb4 (by rintro i rfl; omega) (by omega)
            have hs4 := hkb4.size
            clear hkb4 d0 d1 d2 d3 g0 g1 g2 g3
            obtain ⟨d0, d1, d2, d3⟩ := hD4.c4
            obtain ⟨g0, g1, g2, g3⟩ := hD4.f4
            go_wp2_with fail
            obtain ⟨w6, hw6⟩ : ∃ w6, w6 = w4.setCell ⟨w.heap.size, 1, none⟩ (.int .i64 ((k : Int) + 1)) := ⟨_, rfl⟩
            rw [← hw6]
            have hkb6 : KB w4 w6 (fun k => k = w.heap.size) := by rw [hw6]; exact KB.set _ rfl
            have HD6 := Lib.hid (show Has w6 w.heap.size [.int .i64 (st.lab : Int), .int .i64 ((k + 1 : Nat) : Int), .string tb, .int .u8 (st.op : Int)] by rw [hw6]; exact hD4.set (i := 1))
            have HR6 := Lib.hid (hR4.kb hkb6 (by show ¬ rb = w.heap.size; omega))
            have HL6 := Lib.hid (hL4.kb hkb6 (by show ¬ lb = w.heap.size; omega))
            have HO6 := Lib.hid (own_kb2 hO4 hkb6 Hob.out)
            have HB6 := Lib.hid (show Below rb w w6 from KB.below hB4 hkb6 (by rintro i rfl; omega) (by omega))
            have Hob6 := Hob
            obtain ⟨tb6, htb6⟩ : ∃ tb6 : ByteArray, tb6 = tb := ⟨_, rfl⟩
            have htb6s : tb6.size ≤ 66 * k := by rw [htb6]; exact htbs
            rw [← htb6] at HD6
            obtain ⟨ss6, hss6⟩ : ∃ ss6, ss6 = ss := ⟨_, rfl⟩
            rw [← hss6] at HR6 HO6 Hob6
            have Hsl6 := Lib.hid (show st.sts.length ≤ k + 1 by omega)
            have Hl6 := Lib.hid (show wrN st.l (k + 1) ≤ xs.length from wrN_le hll (by rw [Hn.out]; omega))
            have Hat6 := Lib.hid (Nat.le_refl (k + 1))
            have Hop6 := Lib.hid hop
            have Htb6 := Lib.hid (show tb6.data.toList = st.tx by rw [htb6]; exact Htb.out)
            clear hw6 hkb6 hD4 hR4 hL4 hO4 hB4 hss6 htb6 d0 d1 d2 d3 g0 g1 g2 g3
            obtain ⟨e0, e1, e2, e3⟩ := HD6.out.c4
            rw [Ht6.out]
            refine (findOutside_c t6 (by omega) (st.op) 33 _).mono ?_
            rintro e w7 ⟨rfl, rfl⟩
            have hfo := foB_le t6.data.toList (st.op) 33
            rw [data_len] at hfo
            obtain ⟨f, hf⟩ : ∃ f : Nat, f = foB t6.data.toList (st.op) 33 := ⟨_, rfl⟩
            rw [← hf] at hfo ⊢
            have Hf := Lib.hid hf
            clear hf
            have hf0 : (0 : Int) ≤ (f : Int) := by omega
            have hf1 : (f : Int) ≤ (t6.size : Int) := by omega
            have hs6 := HB6.out.size
            go_wp2_with fail
            refine (add_c w.heap.size _ _ tb6 (t6.extract 0 f) (st.op) w6 HD6.out (by rw [ByteArray.size_extract]; omega) (by omega)).mono ?_
            rintro e w8 ⟨rfl, hD8, hkb8⟩
            have hR8 := HR6.out.kb hkb8 (by show ¬ rb = w.heap.size; omega)
            have hL8 := HL6.out.kb hkb8 (by show ¬ lb = w.heap.size; omega)
            have hO8 := own_kb2 HO6.out hkb8 Hob6.out
            have hB8 : Below rb w w8 := KB.below HB6.out hkb8 (by rintro i rfl; omega) (by omega)
            clear hkb8
            have htx : (t6.extract 0 f).data.toList = ((fil x.data.toList).drop 6).take (foB ((fil x.data.toList).drop 6) (st.op) 33) := by rw [Lib.extract_from_zero, Ht6d.out, Hf.out, Ht6d.out]
            have hrs : roStep st k x.data.toList = roAdd (⟨st.sts, wrN st.l (k + 1), st.lab, k + 1, st.tx, st.op⟩) ((fil x.data.toList).drop 6) := by rw [Hstep.out, Hst2.out]
            have Htx := Lib.hid htx
            have Hrs := Lib.hid hrs
            clear htx hrs
            go_wp2
            go_roundw
            case rel =>
              refine ⟨k + 1, roAdd (⟨st.sts, wrN st.l (k + 1), st.lab, k + 1, st.tx, st.op⟩) ((fil x.data.toList).drop 6), ss6, tb6 ++ t6.extract 0 f, by rw [Hn.out]; omega, by go_num, ?_, ?_, Hsl6.out, Hl6.out, Hat6.out, ?_, hR8, ?_, hL8, hO8, Hob6.out, by rw [← Hrs.out]; exact Hq.out, hB8⟩
              · rw [ByteArray.data_append, Array.toList_append, Htb6.out, Htx.out]; rfl
              · rw [ByteArray.size_append, ByteArray.size_extract]; omega
              · exact opB_lt _ _ Hop6.out
              · rw [Htx.out] at hD8; exact hD8
            case measure => simp [intOf]; omega
          · have f0 : ((st.at_ : Int) == 0) = false := by simp; omega
            by_cases h3 : lbs.toList = []
            · have f3 : lbs.toList.isEmpty = true := by rw [h3]; rfl
              have Hst2 := Lib.hid (show roHead st k (fil x.data.toList) = st by
                unfold roHead; rw [if_neg hbt2, if_neg h0, if_neg (by rw [← hlb, ← Lib.toList_data, f3]; decide)])
              clear hbt2 hlb h0 h3 g0 g1 g2 g3
              obtain ⟨w6, hw6⟩ : ∃ w6, w6 = w3 := ⟨_, rfl⟩
              subst hw6
              have HD6 := HD3; have HR6 := HR3; have HL6 := HL3; have HO6 := HO3; have HB6 := HB3; have Hob6 := Hob
              obtain ⟨tb6, htb6⟩ : ∃ tb6 : ByteArray, tb6 = tb := ⟨_, rfl⟩
              have htb6s : tb6.size ≤ 66 * k := by rw [htb6]; exact htbs
              rw [← htb6] at HD6
              obtain ⟨ss6, hss6⟩ : ∃ ss6, ss6 = ss := ⟨_, rfl⟩
              rw [← hss6] at HR6 HO6 Hob6
              have Hsl6 := Lib.hid (show st.sts.length ≤ k + 1 by omega)
              have Hl6 := Lib.hid hll
              have Hat6 := Lib.hid (show st.at_ ≤ k + 1 by omega)
              have Hop6 := Lib.hid hop
              have Htb6 := Lib.hid (show tb6.data.toList = st.tx by rw [htb6]; exact Htb.out)
              clear hss6 htb6
              go_wp2_with fail
              rw [Ht6.out]
              refine (findOutside_c t6 (by omega) (st.op) 33 _).mono ?_
              rintro e w7 ⟨rfl, rfl⟩
              have hfo := foB_le t6.data.toList (st.op) 33
              rw [data_len] at hfo
              obtain ⟨f, hf⟩ : ∃ f : Nat, f = foB t6.data.toList (st.op) 33 := ⟨_, rfl⟩
              rw [← hf] at hfo ⊢
              have Hf := Lib.hid hf
              clear hf
              have hf0 : (0 : Int) ≤ (f : Int) := by omega
              have hf1 : (f : Int) ≤ (t6.size : Int) := by omega
              have hs6 := HB6.out.size
              go_wp2_with fail
              refine (add_c w.heap.size _ _ tb6 (t6.extract 0 f) (st.op) w6 HD6.out (by rw [ByteArray.size_extract]; omega) (by omega)).mono ?_
              rintro e w8 ⟨rfl, hD8, hkb8⟩
              have hR8 := HR6.out.kb hkb8 (by show ¬ rb = w.heap.size; omega)
              have hL8 := HL6.out.kb hkb8 (by show ¬ lb = w.heap.size; omega)
              have hO8 := own_kb2 HO6.out hkb8 Hob6.out
              have hB8 : Below rb w w8 := KB.below HB6.out hkb8 (by rintro i rfl; omega) (by omega)
              clear hkb8
              have htx : (t6.extract 0 f).data.toList = ((fil x.data.toList).drop 6).take (foB ((fil x.data.toList).drop 6) (st.op) 33) := by rw [Lib.extract_from_zero, Ht6d.out, Hf.out, Ht6d.out]
              have hrs : roStep st k x.data.toList = roAdd (st) ((fil x.data.toList).drop 6) := by rw [Hstep.out, Hst2.out]
              have Htx := Lib.hid htx
              have Hrs := Lib.hid hrs
              clear htx hrs
              go_wp2
              go_roundw
              case rel =>
                refine ⟨k + 1, roAdd (st) ((fil x.data.toList).drop 6), ss6, tb6 ++ t6.extract 0 f, by rw [Hn.out]; omega, by go_num, ?_, ?_, Hsl6.out, Hl6.out, Hat6.out, ?_, hR8, ?_, hL8, hO8, Hob6.out, by rw [← Hrs.out]; exact Hq.out, hB8⟩
                · rw [ByteArray.data_append, Array.toList_append, Htb6.out, Htx.out]; rfl
                · rw [ByteArray.size_append, ByteArray.size_extract]; omega
                · exact opB_lt _ _ Hop6.out
                · rw [Htx.out] at hD8; exact hD8
              case measure => simp [intOf]; omega
            · have f3 : lbs.toList.isEmpty = false := by rw [List.isEmpty_eq_false_iff]; exact h3
              have Hst2 := Lib.hid (show roHead st k (fil x.data.toList) = ⟨st.sts, wrN st.l (k + 1), st.lab, st.at_, st.tx, st.op⟩ by
                unfold roHead; rw [if_neg hbt2, if_neg h0, if_pos (by rw [← hlb, ← Lib.toList_data]; exact f3)])
              clear hbt2 hlb h0 g0 g1 g2 g3
              go_wp2_with fail
              refine (wrong_c rb ls ss st.l (k + 1) w3 HR3.out (by omega)).mono ?_
              rintro e w6 ⟨rfl, hR4, hkb4⟩
              have HL6 := Lib.hid (HL3.out.kb hkb4 (by show ¬ lb = rb; omega))
              have HD6 := Lib.hid (HD3.out.kb hkb4 (by show ¬ w.heap.size = rb; omega))
              have HO6 := Lib.hid (own_kb HO3.out hkb4 (by omega))
              have HB6 := Lib.hid (show Below rb w w6 from KB.below HB3.out hkb4 (by rintro i rfl; omega) (by omega))
              have hs4 := hkb4.size
              have HR6 := Lib.hid hR4
              have Hob6 := Hob
              clear hkb4 hR4 d0 d1 d2 d3
              obtain ⟨tb6, htb6⟩ : ∃ tb6 : ByteArray, tb6 = tb := ⟨_, rfl⟩
              have htb6s : tb6.size ≤ 66 * k := by rw [htb6]; exact htbs
              rw [← htb6] at HD6
              obtain ⟨ss6, hss6⟩ : ∃ ss6, ss6 = ss := ⟨_, rfl⟩
              rw [← hss6] at HR6 HO6 Hob6
              have Hsl6 := Lib.hid (show st.sts.length ≤ k + 1 by omega)
              have Hl6 := Lib.hid (show wrN st.l (k + 1) ≤ xs.length from wrN_le hll (by rw [Hn.out]; omega))
              have Hat6 := Lib.hid (show st.at_ ≤ k + 1 by omega)
              have Hop6 := Lib.hid hop
              have Htb6 := Lib.hid (show tb6.data.toList = st.tx by rw [htb6]; exact Htb.out)
              clear hss6 htb6
              obtain ⟨e0, e1, e2, e3⟩ := HD6.out.c4
              go_wp2_with fail
              rw [Ht6.out]
              refine (findOutside_c t6 (by omega) (st.op) 33 _).mono ?_
              rintro e w7 ⟨rfl, rfl⟩
              have hfo := foB_le t6.data.toList (st.op) 33
              rw [data_len] at hfo
              obtain ⟨f, hf⟩ : ∃ f : Nat, f = foB t6.data.toList (st.op) 33 := ⟨_, rfl⟩
              rw [← hf] at hfo ⊢
              have Hf := Lib.hid hf
              clear hf
              have hf0 : (0 : Int) ≤ (f : Int) := by omega
              have hf1 : (f : Int) ≤ (t6.size : Int) := by omega
              have hs6 := HB6.out.size
              go_wp2_with fail
              refine (add_c w.heap.size _ _ tb6 (t6.extract 0 f) (st.op) w6 HD6.out (by rw [ByteArray.size_extract]; omega) (by omega)).mono ?_
              rintro e w8 ⟨rfl, hD8, hkb8⟩
              have hR8 := HR6.out.kb hkb8 (by show ¬ rb = w.heap.size; omega)
              have hL8 := HL6.out.kb hkb8 (by show ¬ lb = w.heap.size; omega)
              have hO8 := own_kb2 HO6.out hkb8 Hob6.out
              have hB8 : Below rb w w8 := KB.below HB6.out hkb8 (by rintro i rfl; omega) (by omega)
              clear hkb8
              have htx : (t6.extract 0 f).data.toList = ((fil x.data.toList).drop 6).take (foB ((fil x.data.toList).drop 6) (st.op) 33) := by rw [Lib.extract_from_zero, Ht6d.out, Hf.out, Ht6d.out]
              have hrs : roStep st k x.data.toList = roAdd (⟨st.sts, wrN st.l (k + 1), st.lab, st.at_, st.tx, st.op⟩) ((fil x.data.toList).drop 6) := by rw [Hstep.out, Hst2.out]
              have Htx := Lib.hid htx
              have Hrs := Lib.hid hrs
              clear htx hrs
              go_wp2
              go_roundw
              case rel =>
                refine ⟨k + 1, roAdd (⟨st.sts, wrN st.l (k + 1), st.lab, st.at_, st.tx, st.op⟩) ((fil x.data.toList).drop 6), ss6, tb6 ++ t6.extract 0 f, by rw [Hn.out]; omega, by go_num, ?_, ?_, Hsl6.out, Hl6.out, Hat6.out, ?_, hR8, ?_, hL8, hO8, Hob6.out, by rw [← Hrs.out]; exact Hq.out, hB8⟩
                · rw [ByteArray.data_append, Array.toList_append, Htb6.out, Htx.out]; rfl
                · rw [ByteArray.size_append, ByteArray.size_extract]; omega
                · exact opB_lt _ _ Hop6.out
                · rw [Htx.out] at hD8; exact hD8
              case measure => simp [intOf]; omega
        · have HR3 := Lib.hid hR; have HD3 := Lib.hid hD; have HL3 := Lib.hid hL; have HO3 := Lib.hid hO
          clear hR hD hL hO hB3 hB
          have hwl : enW st.l st.lab st.at_ st.tx ≤ 1000000 := enW_le (by omega) (by omega)
          go_wp2_with fail
          refine (end_c rb (rb + 1) ls ss st.sts st.l st.lab st.at_ tb st.op w3 HR3.out HO3.out (by omega) (by omega) (by omega) htb9 (by omega)).mono ?_
          rw [Htb.out]
          rintro e w4 ⟨ss', rfl, hR4, hO4, hob4, hkb4⟩
          have hL4 := HL3.out.kb hkb4 (by
            rintro (h | h)
            · omega
            · have := Hobl.out lb h.symm; omega)
          have hD4 := HD3.out.kb hkb4 (by
            rintro (h | h)
            · omega
            · exact Hob.out h.symm)
          have hB4 : Below rb w w4 := KB.below hBB hkb4 (by
            rintro i (h | h)
            · omega
            · have := Hobl.out i h.symm; omega) (by omega)
          have hob5 : ss'.ownBlock ≠ some w.heap.size := by
            rcases hob4 with h | ⟨g, hg, h⟩
            · rw [h]; exact Hob.out
            · rw [h]; intro e; cases e; omega
          have hs4 := hkb4.size
          clear hkb4 hob4 d0 d1 d2 d3
          have HR4 := Lib.hid hR4; have HO4 := Lib.hid hO4; have HL4 := Lib.hid hL4; have HD4 := Lib.hid hD4; have Hob5 := Lib.hid hob5; have HB4 := Lib.hid hB4
          clear hR4 hO4 hL4 hD4 hob5 hB4 hBB
          go_wp2_with fail
          refine (oldLabel_c rb ls ss' (enW st.l st.lab st.at_ st.tx) (k + 1) lbs w4 HR4.out hwl).mono ?_
          rintro e w5 ⟨rfl, hR5, hkb5⟩
          have hO5 := own_kb HO4.out hkb5 (by omega)
          have hL5 := HL4.out.kb hkb5 (by show ¬ lb = rb; omega)
          have hD5 := HD4.out.kb hkb5 (by show ¬ w.heap.size = rb; omega)
          have hB5 : Below rb w w5 := KB.below HB4.out hkb5 (by rintro i rfl; omega) (by omega)
          have hs5 := hkb5.size
          clear hkb5
          obtain ⟨d0, d1, d2, d3⟩ := hD5.c4
          obtain ⟨g0, g1, g2, g3⟩ := hD5.f4
          go_wp2_with fail
          obtain ⟨w6, hw6⟩ : ∃ w6, w6 = ((((w5.setCell ⟨w.heap.size, 0, none⟩ (.int .i64 (olL lbs.data.toList : Int))).setCell ⟨w.heap.size, 1, none⟩ (.int .i64 ((k : Int) + 1))).setCell ⟨w.heap.size, 2, none⟩ (.string ⟨#[]⟩)).setCell ⟨w.heap.size, 3, none⟩ (.int .u8 0)) := ⟨_, rfl⟩
          rw [← hw6]
          have hkb6 := set4_kb w5 w.heap.size (.int .i64 (olL lbs.data.toList : Int)) (.int .i64 ((k : Int) + 1)) (.string ⟨#[]⟩) (.int .u8 0)
          rw [← hw6] at hkb6
          have HD6 := Lib.hid (show Has w6 w.heap.size [.int .i64 (olL lbs.data.toList : Int), .int .i64 ((k + 1 : Nat) : Int), .string ⟨#[]⟩, .int .u8 ((0 : Nat) : Int)] by
            rw [hw6]; exact (((hD5.set (i := 0)).set (i := 1)).set (i := 2)).set (i := 3))
          have HR6 := Lib.hid (hR5.kb hkb6 (by show ¬ rb = w.heap.size; omega))
          have HL6 := Lib.hid (hL5.kb hkb6 (by show ¬ lb = w.heap.size; omega))
          have HO6 := Lib.hid (own_kb2 hO5 hkb6 Hob5.out)
          have HB6 := Lib.hid (show Below rb w w6 from KB.below hB5 hkb6 (by rintro i rfl; omega) (by omega))
          have Hob6 := Hob5
          obtain ⟨tb6, htb6⟩ : ∃ tb6 : ByteArray, tb6 = ⟨#[]⟩ := ⟨_, rfl⟩
          have htb6s : tb6.size ≤ 66 * k := by rw [htb6]; exact Nat.zero_le _
          rw [← htb6] at HD6
          obtain ⟨ss6, hss6⟩ : ∃ ss6, ss6 = ss' := ⟨_, rfl⟩
          rw [← hss6] at HR6 HO6 Hob6
          have hlb : lbs.data.toList = Lib.trimB ((fil x.data.toList).take 5) 32 := by rw [Hlbs.out]
          have Hst2 := Lib.hid (show roHead st k (fil x.data.toList) = ⟨enS st.sts st.lab st.at_ st.tx, olW lbs.data.toList (enW st.l st.lab st.at_ st.tx) (k + 1), olL lbs.data.toList, k + 1, [], 0⟩ by
            unfold roHead; rw [if_pos (of_decide_eq_true Hq2.out.symm), hlb])
          have Hsl6 := Lib.hid (show (enS st.sts st.lab st.at_ st.tx).length ≤ k + 1 by have := enS_len st.sts st.lab st.at_ st.tx; omega)
          have Hl6 := Lib.hid (show olW lbs.data.toList (enW st.l st.lab st.at_ st.tx) (k + 1) ≤ xs.length from olW_le (enW_le hll (by omega)) (by rw [Hn.out]; omega))
          have Hat6 := Lib.hid (Nat.le_refl (k + 1))
          have Hop6 := Lib.hid (show 0 < 256 by omega)
          have Htb6 := Lib.hid (show tb6.data.toList = [] by rw [htb6])
          clear hw6 hkb6 hD5 hR5 hL5 hO5 hB5 hss6 htb6 hlb d0 d1 d2 d3 g0 g1 g2 g3
          obtain ⟨e0, e1, e2, e3⟩ := HD6.out.c4
          rw [Ht6.out]
          refine (findOutside_c t6 (by omega) (0) 33 _).mono ?_
          rintro e w7 ⟨rfl, rfl⟩
          have hfo := foB_le t6.data.toList (0) 33
          rw [data_len] at hfo
          obtain ⟨f, hf⟩ : ∃ f : Nat, f = foB t6.data.toList (0) 33 := ⟨_, rfl⟩
          rw [← hf] at hfo ⊢
          have Hf := Lib.hid hf
          clear hf
          have hf0 : (0 : Int) ≤ (f : Int) := by omega
          have hf1 : (f : Int) ≤ (t6.size : Int) := by omega
          have hs6 := HB6.out.size
          go_wp2_with fail
          refine (add_c w.heap.size _ _ tb6 (t6.extract 0 f) (0) w6 HD6.out (by rw [ByteArray.size_extract]; omega) (by omega)).mono ?_
          rintro e w8 ⟨rfl, hD8, hkb8⟩
          have hR8 := HR6.out.kb hkb8 (by show ¬ rb = w.heap.size; omega)
          have hL8 := HL6.out.kb hkb8 (by show ¬ lb = w.heap.size; omega)
          have hO8 := own_kb2 HO6.out hkb8 Hob6.out
          have hB8 : Below rb w w8 := KB.below HB6.out hkb8 (by rintro i rfl; omega) (by omega)
          clear hkb8
          have htx : (t6.extract 0 f).data.toList = ((fil x.data.toList).drop 6).take (foB ((fil x.data.toList).drop 6) (0) 33) := by rw [Lib.extract_from_zero, Ht6d.out, Hf.out, Ht6d.out]
          have hrs : roStep st k x.data.toList = roAdd (⟨enS st.sts st.lab st.at_ st.tx, olW lbs.data.toList (enW st.l st.lab st.at_ st.tx) (k + 1), olL lbs.data.toList, k + 1, [], 0⟩) ((fil x.data.toList).drop 6) := by rw [Hstep.out, Hst2.out]
          have Htx := Lib.hid htx
          have Hrs := Lib.hid hrs
          clear htx hrs
          go_wp2
          go_roundw
          case rel =>
            refine ⟨k + 1, roAdd (⟨enS st.sts st.lab st.at_ st.tx, olW lbs.data.toList (enW st.l st.lab st.at_ st.tx) (k + 1), olL lbs.data.toList, k + 1, [], 0⟩) ((fil x.data.toList).drop 6), ss6, tb6 ++ t6.extract 0 f, by rw [Hn.out]; omega, by go_num, ?_, ?_, Hsl6.out, Hl6.out, Hat6.out, ?_, hR8, ?_, hL8, hO8, Hob6.out, by rw [← Hrs.out]; exact Hq.out, hB8⟩
            · rw [ByteArray.data_append, Array.toList_append, Htb6.out, Htx.out]; rfl
            · rw [ByteArray.size_append, ByteArray.size_extract]; omega
            · exact opB_lt _ _ Hop6.out
            · rw [Htx.out] at hD8; exact hD8
          case measure => simp [intOf]; omega
    · obtain rfl : k = n := by omega
      have hst : roAll xs 0 st0 = st := by rw [← hq, List.drop_of_length_le (by omega)]; rfl
      have e1 : st1 = st := Hs1.out.trans hst
      have hbl := hB.size
      have hdb := hD.lt
      obtain ⟨d0, d1, d2, d3⟩ := hD.c4
      have hobl : ∀ g, ss.ownBlock = some g → rb + 1 ≤ g := fun g hg => (hO.lt g hg).1
      subst e1
      have HE := Lib.hid (end_c rb (rb + 1) ls ss st1.sts st1.l st1.lab st1.at_ tb st1.op wr hR hO (by omega) (by omega) (by omega) (by omega) (by omega))
      rw [htb] at HE
      have HB := Lib.hid hB
      clear hq hst hR hD hL hO hob htb hB
      go_wp2_with fail
      refine HE.out.mono ?_
      rintro e w4 ⟨ss', rfl, hR4, hO4, hob4, hkb4⟩
      have hB4 : Below rb w w4 := KB.below HB.out hkb4 (by
        rintro i (h | h)
        · omega
        · have := hobl i h.symm; omega) (by omega)
      clear hkb4 hobl
      go_wp2
      go_end0
      exact ⟨ss', rfl, hR4, hO4, hB4⟩
end Go.Proofs.YtdandmbgdndnjaaGreatDoor

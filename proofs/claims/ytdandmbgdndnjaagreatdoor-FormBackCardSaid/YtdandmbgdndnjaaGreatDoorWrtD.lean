/- Contracts of the writer's closure and of cutNew. -/
import Derived.Test.YtdandmbgdndnjaaGreatDoorWrtC
import Derived.Lib.AppendIntMem
import Derived.Lib.LaidTab
namespace Go.Proofs.YtdandmbgdndnjaaGreatDoor
open Go.RowKit

/-- The table of powers of ten that the library's writing of numbers reads. -/
def TW (w : World) : Prop := Lib.TabIs Tryz.prog w "internal/strconv.uint64pow10" .u64 Lib.pow10Tab
theorem gPow : Tryz.prog.globalNamed "internal/strconv.uint64pow10" = some 3 := by kernel_rfl
theorem TW.lt {w : World} (h : TW w) : 3 < w.heap.size := by
  unfold TW Lib.TabIs World.var? at h
  rw [gPow] at h
  simp only [Option.bind_some] at h
  rcases Nat.lt_or_ge 3 w.heap.size with h3 | h3
  · exact h3
  · rw [Array.getElem?_eq_none h3] at h; cases h
theorem TW.keep {w w' : World} {B : Nat} (h : TW w) (hb : Below B w w') (hB : 3 < B) : TW w' := by
  have e := hb.block 3 hB
  unfold TW Lib.TabIs World.var? at h ⊢
  rw [gPow] at h ⊢
  simp only [Option.bind_some] at h ⊢
  rw [e]
  exact h
/-- A builder that holds bytes. -/
abbrev IB (B b : Nat) (acc : List UInt8) (w : World) : Prop := Lib.IsBuilder 51 5 B b (Lib.byteCells acc) w
theorem IB.keep {B b : Nat} {acc : List UInt8} {w w' : World} (h : IB B b acc w) (hb : Below w.heap.size w w') : IB B b acc w' := by
  have key : ∀ p, Lib.BuilderAt 51 5 B b p (Lib.byteCells acc) w → Lib.BuilderAt 51 5 B b p (Lib.byteCells acc) w' := by
    rintro p ⟨h1, v, h2, h3, h4⟩
    have hl : b < w.heap.size := by
      rcases Nat.lt_or_ge b w.heap.size with h | h
      · exact h
      · rw [Array.getElem?_eq_none h] at h2; cases h2
    exact ⟨h1, v, (hb.block b hl).trans h2, own_below h3 hb, h4⟩
  exact h.imp (key _) (key _)
theorem byteCells_ten : Lib.byteCells [10] = [.int .u8 10] := rfl

set_option maxHeartbeats 1000000 in
theorem line_c (B b : Nat) (acc : List UInt8) (s : ByteArray) (w : World) (h : IB B b acc w) (hs : s.size ≤ 1000000) (ha : acc.length ≤ 100000000) (hB : B ≤ w.heap.size) :
    Calls Tryz.prog 39 #[.string s, .pointer (some ⟨b, 0, none⟩)] w fun e w' => e = .returned (.tuple #[]) ∧ IB B b (acc ++ s.data.toList ++ [10]) w' ∧ Below B w w' := by
  have H1 := Lib.hid (Tryz.Builder_WriteString B b (Lib.byteCells acc) s w h (by rw [Lib.byteCells_length]; omega) hB)
  clear h
  go_enter Tryz.func39, Tryz.ntmps39
  go_wp2_with fail
  refine H1.out.mono ?_
  rintro e w1 ⟨rfl, hb1, hB1⟩
  have H2 := Lib.hid (Tryz.Builder_WriteByte B b (Lib.byteCells acc ++ Lib.strCells s) 10 w1 (Or.inr hb1) (by rw [List.length_append, Lib.byteCells_length, Lib.strCells_length]; omega) (by have := hB1.size; omega))
  clear hb1
  go_wp2_with fail
  refine H2.out.mono ?_
  rintro e w2 ⟨rfl, hb2, hB2⟩
  have hB3 := hB1.trans hB2
  clear hB1 hB2
  go_wp2
  go_end0
  refine ⟨rfl, Or.inr ?_, hB3⟩
  rw [Lib.strCells_eq, ← Lib.byteCells_append, ← byteCells_ten, ← Lib.byteCells_append] at hb2
  exact hb2

set_option maxRecDepth 100000 in
set_option maxHeartbeats 4000000 in
theorem cutNew_c (B b : Nat) (acc : List UInt8) (x0 : Int) (x1 : ByteArray) (x2 : Int) (w : World) (hok : okL (x0, x1, x2) = true) (hT : TW w) (h : IB B b acc w) (ha : acc.length ≤ 50000000) (hB : B ≤ w.heap.size) :
    Calls Tryz.prog 24 #[.agg #[.int .i64 x0, .string x1, .int .i64 x2], .func (.func 39) #[] #[.pointer (some ⟨b, 0, none⟩)]] w
      fun e w' => e = .returned (.tuple #[]) ∧ IB B b (acc ++ nwS (x0, x1, x2)) w' ∧ Below B w w' := by
  obtain ⟨h0, h1, h2⟩ := okL_bounds hok
  simp only at h0 h1 h2
  have hns := nwS_len hok
  obtain ⟨tx, htx⟩ : ∃ tx : ByteArray, tx = ⟨(txN (x0, x1, x2)).toArray⟩ := ⟨_, rfl⟩
  have htxd : tx.data.toList = txN (x0, x1, x2) := by rw [htx]
  have htxs : tx.size ≤ 8006 := by rw [← data_len, htxd]; exact txN_len hok
  obtain ⟨tot, htot⟩ : ∃ tot : List UInt8, tot = acc ++ nwS (x0, x1, x2) := ⟨_, rfl⟩
  have htl : tot.length ≤ 60000000 := by rw [htot, List.length_append]; omega
  have hrel0 : acc ++ [] ++ nwP tx.data.toList = tot := by rw [htxd, htot, List.append_nil]; rfl
  rw [← htot]
  have hbox := Has.new w [.int .i64 x0, .string x1, .int .i64 x2] 34
  obtain ⟨c0, c1, c2⟩ := hbox.c3
  have hBx : Below w.heap.size w (w.alloc (.cells #[.int .i64 x0, .string x1, .int .i64 x2] 34)) := (Below.refl _ _).alloc (Nat.le_refl _) _
  have H := Lib.hid (h.keep hBx)
  have HT := Lib.hid (hT.keep hBx hT.lt)
  have Hd := Lib.hid htxd; have Hr0 := Lib.hid hrel0; have Htx := Lib.hid htx
  clear hok hns htxd hrel0 htot h hT htx hbox
  by_cases hl : 0 < x0
  · have f1 : decide (0 < x0) = true := by simp; omega
    have f2 : x0 ≤ 99999 := h1
    have hit : Lib.itoa x0 = dgP x0.toNat := by
      unfold Lib.itoa dgP
      rw [if_neg (by omega), if_neg (by omega)]
    obtain ⟨ib, hib⟩ : ∃ ib : ByteArray, ib = ⟨(dgP x0.toNat).toArray⟩ := ⟨_, rfl⟩
    have hibs : ib.size ≤ 5 := by
      have : ib.size = (dgP x0.toNat).length := by rw [hib]; rfl
      have := dgP_len (n := x0.toNat) (by omega)
      omega
    have hs1 : ib.size + 1 ≤ 1000 := by omega
    have hsj : (ib ++ ⟨#[32]⟩).size = ib.size + 1 := by rw [ByteArray.size_append]; rfl
    have hs2 : (ib ++ ⟨#[32]⟩).size + x1.size ≤ 10000 := by omega
    have hte : tx = ib ++ ⟨#[32]⟩ ++ x1 := by
      apply Go.WideShapes.bytes_inj
      rw [Hd.out, ByteArray.data_append, Array.toList_append, ByteArray.data_append, Array.toList_append, hib]
      unfold txN
      rw [if_pos hl]
    have HIb := Lib.hid (show (⟨(Lib.itoa x0).toArray⟩ : ByteArray) = ib by rw [hit, hib])
    have HE := Lib.hid hte
    have HIt := Lib.hid (fun wx h => Tryz.strconv_Itoa x0 (by omega) (by omega) wx h)
    clear hit hib hsj hte
    go_enter Tryz.func24, Tryz.ntmps24
    go_wp2_with fail
    go_quiet (fail)
    have HT1 := Lib.hid (HT.out.keep (below_dn (Below.refl _ _) nq) HT.out.lt)
    go_wp2_with fail
    refine (HIt.out _ HT1.out).mono ?_
    rw [HIb.out]
    rintro e w1 ⟨rfl, kk, os, hw1⟩
    have hBi : Below (w.alloc (.cells #[.int .i64 x0, .string x1, .int .i64 x2] 34)).heap.size (w.alloc (.cells #[.int .i64 x0, .string x1, .int .i64 x2] 34)) w1 := by
      rw [hw1]
      exact (below_dn (Below.refl _ _) nq).trans (Lib.below_grow _ _ (by simp [World.drewN]) kk os)
    have HI := Lib.hid (H.out.keep hBi)
    have HB1 := Lib.hid (show Below B w w1 from (hBx.mono hB).trans (hBi.mono (by simp; omega)))
    have Hsz := Lib.hid (show (ib ++ ⟨#[32]⟩ ++ x1).size ≤ 8006 by rw [← HE.out]; exact htxs)
    have Hr1 := Lib.hid (show acc ++ [] ++ nwP (ib ++ ⟨#[32]⟩ ++ x1).data.toList = tot by rw [← HE.out]; exact Hr0.out)
    clear hw1 hBi hBx c0 c1 c2
    go_wp2_with fail
    go_loopw [4, 5] (fun a c wr => ∃ (fr tt : ByteArray) (acc' : List UInt8), a = .string fr ∧ c = .string tt ∧ fr.size ≤ 1 ∧ tt.size ≤ 8006 ∧ acc' ++ fr.data.toList ++ nwP tt.data.toList = tot ∧ IB B b acc' wr ∧ Below B w wr) (fun _ c _ => szOf c)
    case atStart => exact ⟨⟨#[]⟩, ib ++ ⟨#[32]⟩ ++ x1, acc, rfl, rfl, by decide, Hsz.out, Hr1.out, HI.out, HB1.out⟩
    case round =>
      obtain ⟨fr, tt, acc', rfl, rfl, hfr, htt, heq, hI, hBw⟩ := hrel
      have hal : acc'.length ≤ 60000000 := by
        have := congrArg List.length heq
        simp only [List.length_append] at this
        omega
      have HI2 := Lib.hid hI
      have hBs := hBw.size
      by_cases hlt : 100 < tt.size
      · have g1 : decide ((100 : Int) < (tt.size : Int)) = true := by simp; omega
        have g2 : decide (100 < tt.size) = true := by simp; omega
        have hx : (tt.extract 0 100).size = 100 := by rw [ByteArray.size_extract]; omega
        have hs1 : fr.size + (tt.extract 0 100).size ≤ 1000 := by omega
        have hs2 : (fr ++ tt.extract 0 100).size + 1 ≤ 1000 := by rw [ByteArray.size_append]; omega
        have hs3 : (fr ++ tt.extract 0 100 ++ ⟨#[38]⟩).size ≤ 1000000 := by rw [ByteArray.size_append, ByteArray.size_append]; show _ + 1 ≤ _; omega
        have hd : (fr ++ tt.extract 0 100 ++ ⟨#[38]⟩).data.toList = fr.data.toList ++ tt.data.toList.take 100 ++ [38] := by
          rw [ByteArray.data_append, Array.toList_append, ByteArray.data_append, Array.toList_append, Lib.extract_from_zero]
        have hde : (tt.extract 100 tt.size).data.toList = tt.data.toList.drop 100 := Lib.extract_to_end tt 100
        have hze : (tt.extract 100 tt.size).size = tt.size - 100 := by rw [ByteArray.size_extract]; omega
        have hn : acc' ++ (fr.data.toList ++ tt.data.toList.take 100 ++ [38]) ++ [10] ++ [38] ++ nwP (tt.data.toList.drop 100) = tot := by
          rw [← heq, nwP_go (L := tt.data.toList) (by rw [data_len]; exact hlt)]
          simp only [List.append_assoc, List.cons_append, List.nil_append]
        have HN := Lib.hid hn; have HDd := Lib.hid hd; have HDe := Lib.hid hde; have HZ := Lib.hid hze
        have hs4 : (tt.extract 100 tt.size).size ≤ 7906 := by omega
        have hs5 : (tt.extract 100 tt.size).size < tt.size := by omega
        clear heq hI hx hn hd hde hze
        go_wp2_with fail
        refine (line_c B b acc' _ wr HI2.out hs3 (by omega) (by omega)).mono ?_
        rw [HDd.out]
        rintro e w5 ⟨rfl, hI5, hB5⟩
        have HI5 := Lib.hid hI5
        have hBB := hBw.trans hB5
        clear hI5 hB5 hBw
        go_wp2_with fail
        go_quiet (fail)
        go_wp2
        go_roundw
        case rel => exact ⟨⟨#[38]⟩, tt.extract 100 tt.size, _, rfl, rfl, by decide, by omega, by rw [HDe.out]; exact HN.out, HI5.out.keep (below_dn (Below.refl _ _) _), below_dn hBB _⟩
        case measure => simp [szOf]; omega
      · have g1 : decide ((100 : Int) < (tt.size : Int)) = false := by simp; omega
        have g2 : decide (100 < tt.size) = false := by simp; omega
        have hs1 : fr.size + tt.size ≤ 1000 := by omega
        have hs3 : (fr ++ tt).size ≤ 1000000 := by rw [ByteArray.size_append]; omega
        have hd : (fr ++ tt).data.toList = fr.data.toList ++ tt.data.toList := by rw [ByteArray.data_append, Array.toList_append]
        have hn : acc' ++ (fr.data.toList ++ tt.data.toList) ++ [10] = tot := by
          rw [← heq, nwP_end (L := tt.data.toList) (by rw [data_len]; exact hlt)]
          simp only [List.append_assoc]
        have HN := Lib.hid hn; have HDd := Lib.hid hd
        clear heq hI hn hd
        go_wp2_with fail
        refine (line_c B b acc' _ wr HI2.out hs3 (by omega) (by omega)).mono ?_
        rw [HDd.out, HN.out]
        rintro e w5 ⟨rfl, hI5, hB5⟩
        have hBB := hBw.trans hB5
        clear hB5 hBw
        go_wp2
        go_end0
        exact ⟨rfl, hI5, hBB⟩
  · have f1 : decide (0 < x0) = false := by simp; omega
    have e1 : tx = x1 := by
      rw [Htx.out]; unfold txN; rw [if_neg hl]
    have HE := Lib.hid e1
    clear e1
    go_enter Tryz.func24, Tryz.ntmps24
    go_wp2_with fail
    go_quiet (fail)
    have HI := Lib.hid (H.out.keep (below_dn (Below.refl _ _) nq))
    have HB1 := Lib.hid (show Below B w ((w.alloc (.cells #[.int .i64 x0, .string x1, .int .i64 x2] 34)).drewN nq) from below_dn (hBx.mono hB) nq)
    have Hsz := Lib.hid (show x1.size ≤ 8006 by omega)
    have Hr1 := Lib.hid (show acc ++ [] ++ nwP x1.data.toList = tot by rw [← HE.out]; exact Hr0.out)
    clear hBx c0 c1 c2
    go_wp2_with fail
    go_loopw [4, 5] (fun a c wr => ∃ (fr tt : ByteArray) (acc' : List UInt8), a = .string fr ∧ c = .string tt ∧ fr.size ≤ 1 ∧ tt.size ≤ 8006 ∧ acc' ++ fr.data.toList ++ nwP tt.data.toList = tot ∧ IB B b acc' wr ∧ Below B w wr) (fun _ c _ => szOf c)
    case atStart => exact ⟨⟨#[]⟩, x1, acc, rfl, rfl, by decide, Hsz.out, Hr1.out, HI.out, HB1.out⟩
    case round =>
      obtain ⟨fr, tt, acc', rfl, rfl, hfr, htt, heq, hI, hBw⟩ := hrel
      have hal : acc'.length ≤ 60000000 := by
        have := congrArg List.length heq
        simp only [List.length_append] at this
        omega
      have HI2 := Lib.hid hI
      have hBs := hBw.size
      by_cases hlt : 100 < tt.size
      · have g1 : decide ((100 : Int) < (tt.size : Int)) = true := by simp; omega
        have g2 : decide (100 < tt.size) = true := by simp; omega
        have hx : (tt.extract 0 100).size = 100 := by rw [ByteArray.size_extract]; omega
        have hs1 : fr.size + (tt.extract 0 100).size ≤ 1000 := by omega
        have hs2 : (fr ++ tt.extract 0 100).size + 1 ≤ 1000 := by rw [ByteArray.size_append]; omega
        have hs3 : (fr ++ tt.extract 0 100 ++ ⟨#[38]⟩).size ≤ 1000000 := by rw [ByteArray.size_append, ByteArray.size_append]; show _ + 1 ≤ _; omega
        have hd : (fr ++ tt.extract 0 100 ++ ⟨#[38]⟩).data.toList = fr.data.toList ++ tt.data.toList.take 100 ++ [38] := by
          rw [ByteArray.data_append, Array.toList_append, ByteArray.data_append, Array.toList_append, Lib.extract_from_zero]
        have hde : (tt.extract 100 tt.size).data.toList = tt.data.toList.drop 100 := Lib.extract_to_end tt 100
        have hze : (tt.extract 100 tt.size).size = tt.size - 100 := by rw [ByteArray.size_extract]; omega
        have hn : acc' ++ (fr.data.toList ++ tt.data.toList.take 100 ++ [38]) ++ [10] ++ [38] ++ nwP (tt.data.toList.drop 100) = tot := by
          rw [← heq, nwP_go (L := tt.data.toList) (by rw [data_len]; exact hlt)]
          simp only [List.append_assoc, List.cons_append, List.nil_append]
        have HN := Lib.hid hn; have HDd := Lib.hid hd; have HDe := Lib.hid hde; have HZ := Lib.hid hze
        have hs4 : (tt.extract 100 tt.size).size ≤ 7906 := by omega
        have hs5 : (tt.extract 100 tt.size).size < tt.size := by omega
        clear heq hI hx hn hd hde hze
        go_wp2_with fail
        refine (line_c B b acc' _ wr HI2.out hs3 (by omega) (by omega)).mono ?_
        rw [HDd.out]
        rintro e w5 ⟨rfl, hI5, hB5⟩
        have HI5 := Lib.hid hI5
        have hBB := hBw.trans hB5
        clear hI5 hB5 hBw
        go_wp2_with fail
        go_quiet (fail)
        go_wp2
        go_roundw
        case rel => exact ⟨⟨#[38]⟩, tt.extract 100 tt.size, _, rfl, rfl, by decide, by omega, by rw [HDe.out]; exact HN.out, HI5.out.keep (below_dn (Below.refl _ _) _), below_dn hBB _⟩
        case measure => simp [szOf]; omega
      · have g1 : decide ((100 : Int) < (tt.size : Int)) = false := by simp; omega
        have g2 : decide (100 < tt.size) = false := by simp; omega
        have hs1 : fr.size + tt.size ≤ 1000 := by omega
        have hs3 : (fr ++ tt).size ≤ 1000000 := by rw [ByteArray.size_append]; omega
        have hd : (fr ++ tt).data.toList = fr.data.toList ++ tt.data.toList := by rw [ByteArray.data_append, Array.toList_append]
        have hn : acc' ++ (fr.data.toList ++ tt.data.toList) ++ [10] = tot := by
          rw [← heq, nwP_end (L := tt.data.toList) (by rw [data_len]; exact hlt)]
          simp only [List.append_assoc]
        have HN := Lib.hid hn; have HDd := Lib.hid hd
        clear heq hI hn hd
        go_wp2_with fail
        refine (line_c B b acc' _ wr HI2.out hs3 (by omega) (by omega)).mono ?_
        rw [HDd.out, HN.out]
        rintro e w5 ⟨rfl, hI5, hB5⟩
        have hBB := hBw.trans hB5
        clear hB5 hBw
        go_wp2
        go_end0
        exact ⟨rfl, hI5, hBB⟩
end Go.Proofs.YtdandmbgdndnjaaGreatDoor

/- Contract of cutOld. -/
import Derived.Test.YtdandmbgdndnjaaGreatDoorWrtD
import Derived.Test.YtdandmbgdndnjaaGreatDoorShelfR
import Derived.Deep.RegionHeld3
import Derived.IntWalk
namespace Go.Proofs.YtdandmbgdndnjaaGreatDoor
open Go.RowKit

theorem rep_n : ∀ n, Lib.repeatL [32] n = List.replicate n 32
  | 0 => rfl
  | n + 1 => by
    show [32] ++ Lib.repeatL [32] n = _
    rw [rep_n n]; rfl

set_option maxRecDepth 100000 in
set_option maxHeartbeats 4000000 in
theorem cutOld_c (B b : Nat) (acc : List UInt8) (x0 : Int) (x1 : ByteArray) (x2 : Int) (w : World) (hok : okL (x0, x1, x2) = true) (hT : TW w) (h : IB B b acc w) (ha : acc.length ≤ 50000000) (hB : B ≤ w.heap.size) :
    Calls Tryz.prog 26 #[.agg #[.int .i64 x0, .string x1, .int .i64 x2], .func (.func 39) #[] #[.pointer (some ⟨b, 0, none⟩)]] w
      fun e w' => e = .returned (.tuple #[]) ∧ IB B b (acc ++ owS (x0, x1, x2)) w' ∧ Below B w w' := by
  obtain ⟨h0, h1, h2⟩ := okL_bounds hok
  simp only at h0 h1 h2
  have hns := owS_len hok
  obtain ⟨tot, htot⟩ : ∃ tot : List UInt8, tot = acc ++ owS (x0, x1, x2) := ⟨_, rfl⟩
  have htl : tot.length ≤ 60000000 := by rw [htot, List.length_append]; omega
  have hrel0 : acc ++ owP (hdP x0.toNat) x1.data.toList = tot := by rw [htot]; rfl
  rw [← htot]
  have hbox := Has.new w [.int .i64 x0, .string x1, .int .i64 x2] 34
  obtain ⟨c0, c1, c2⟩ := hbox.c3
  have hBx : Below w.heap.size w (w.alloc (.cells #[.int .i64 x0, .string x1, .int .i64 x2] 34)) := (Below.refl _ _).alloc (Nat.le_refl _) _
  have H := Lib.hid (h.keep hBx)
  have HT := Lib.hid (hT.keep hBx hT.lt)
  have Hr0 := Lib.hid hrel0
  have Hbox := Lib.hid hbox
  have hdl := dgP_len (n := x0.toNat) (by omega)
  obtain ⟨ib, hib⟩ : ∃ ib : ByteArray, ib = ⟨(dgP x0.toNat).toArray⟩ := ⟨_, rfl⟩
  have hibd : ib.data.toList = dgP x0.toNat := by rw [hib]
  have hibs : ib.size ≤ 5 := by rw [← data_len, hibd]; exact hdl
  have Hib := Lib.hid hibd
  have HibE := Lib.hid hib
  clear hok hns hrel0 htot h hT hbox hdl hib hibd
  by_cases hl : 0 < x0
  · have f1 : decide (0 < x0) = true := by simp; omega
    have hit : (⟨(Lib.itoa x0).toArray⟩ : ByteArray) = ib := by
      rw [HibE.out]
      unfold Lib.itoa dgP
      rw [if_neg (by omega), if_neg (by omega)]
    have HIb := Lib.hid hit
    have HIt := Lib.hid (fun wx h => Tryz.strconv_Itoa x0 (by omega) (by omega) wx h)
    clear hit
    have hcc : (6 : Int) - (ib.size : Int) = ((6 - ib.size : Nat) : Int) := by omega
    obtain ⟨cc, hcn⟩ : ∃ cc : Nat, cc = 6 - ib.size := ⟨_, rfl⟩
    have hc9 : cc ≤ 6 := by omega
    have hwr : IntKind.i64.wrap ((6 : Int) - (ib.size : Int)) = (cc : Int) := by rw [hcc, ← hcn]; exact IntWalk.i64_in _ (by omega)
    obtain ⟨rp, hrp⟩ : ∃ rp : ByteArray, rp = ⟨(Lib.repeatL [32] cc).toArray⟩ := ⟨_, rfl⟩
    have hrps : rp.size = cc := by rw [hrp]; show (Lib.repeatL [32] cc).length = cc; rw [Lib.repeatL_length]; simp
    have hsum : ib.size + rp.size ≤ 1000 := by omega
    have hns : ¬ 9223372036854775807 < ib.size + rp.size := by omega
    have HF := Lib.hid (show (ib ++ rp).data.toList = hdP x0.toNat by
      rw [ByteArray.data_append, Array.toList_append, Hib.out, hrp]
      show dgP x0.toNat ++ Lib.repeatL [32] cc = _
      unfold hdP
      rw [rep_n, hcn, ← data_len ib, Hib.out])
    have Hfs := Lib.hid (show (ib ++ rp).size ≤ 6 by rw [ByteArray.size_append]; omega)
    have HRp := Lib.hid (fun wx => show Calls Tryz.prog 45 #[.string ⟨#[32]⟩, .int .i64 (cc : Int)] wx (fun e w' => e = .returned (.string rp) ∧ Below wx.heap.size wx w') by
      rw [hrp]; exact Tryz.strings_Repeat ⟨#[32]⟩ cc wx (by omega) (by show 1 * cc ≤ _; omega))
    clear hcc hcn hrp hrps
    go_enter Tryz.func26, Tryz.ntmps26
    go_wp2_with fail
    refine (HIt.out _ HT.out).mono ?_
    rw [HIb.out]
    rintro e w1 ⟨rfl, kk, os, hw1⟩
    have hBi : Below (w.alloc (.cells #[.int .i64 x0, .string x1, .int .i64 x2] 34)).heap.size (w.alloc (.cells #[.int .i64 x0, .string x1, .int .i64 x2] 34)) w1 := by
      rw [hw1]
      exact Lib.below_grow _ _ (Nat.le_refl _) kk os
    obtain ⟨d0, d1, d2⟩ := (Hbox.out.keep hBi).c3
    have HI0 := Lib.hid (H.out.keep hBi)
    have HB0 := Lib.hid (show Below B w w1 from (hBx.mono hB).trans (hBi.mono (by simp; omega)))
    clear hw1 hBi hBx c0 c1 c2
    go_wp2_with fail
    go_region_held3 (fun w' => w'.cell? ⟨w.heap.size, 1, none⟩ = some (.string x1))
      (first | go_keep | exact ck hBr (by assumption))
      ((go_at_call 45; refine (HRp.out _).mono ?_; rintro e w' ⟨rfl, hBr⟩))
    have HI := Lib.hid (HI0.out.keep (show Below w1.heap.size w1 w' from ((Below.refl _ _).drew).trans hBr))
    have HB1 := Lib.hid (show Below B w w' from HB0.out.trans ((((Below.refl _ _).drew).trans hBr).mono (show B ≤ w1.heap.size from by have := HB0.out.size; omega)))
    have Hfd := HF
    clear hBr d0 d1 d2
    go_wp2_with fail
    go_loopw [5, 6] (fun a c wr => ∃ (fr tt : ByteArray) (acc' : List UInt8), a = .string fr ∧ c = .string tt ∧ fr.size ≤ 6 ∧ tt.size ≤ 8006 ∧ acc' ++ owP fr.data.toList tt.data.toList = tot ∧ IB B b acc' wr ∧ Below B w wr) (fun _ c _ => szOf c)
    case atStart => exact ⟨ib ++ rp, x1, acc, rfl, rfl, Hfs.out, by omega, by rw [Hfd.out]; exact Hr0.out, HI.out, HB1.out⟩
    case round =>
      obtain ⟨fr, tt, acc', rfl, rfl, hfr, htt, heq, hI, hBw⟩ := hrel
      have hal : acc'.length ≤ 60000000 := by
        have := congrArg List.length heq
        simp only [List.length_append] at this
        omega
      have HI2 := Lib.hid hI
      have hBs := hBw.size
      by_cases hlt : 66 < tt.size
      · have g1 : decide ((66 : Int) < (tt.size : Int)) = true := by simp; omega
        have g2 : decide (66 < tt.size) = true := by simp; omega
        have hx : (tt.extract 0 66).size = 66 := by rw [ByteArray.size_extract]; omega
        have hs1 : fr.size + (tt.extract 0 66).size ≤ 1000 := by omega
        have hs3 : (fr ++ tt.extract 0 66).size ≤ 1000000 := by rw [ByteArray.size_append]; omega
        have hd : (fr ++ tt.extract 0 66).data.toList = fr.data.toList ++ tt.data.toList.take 66 := by
          rw [ByteArray.data_append, Array.toList_append, Lib.extract_from_zero]
        have hde : (tt.extract 66 tt.size).data.toList = tt.data.toList.drop 66 := Lib.extract_to_end tt 66
        have hze : (tt.extract 66 tt.size).size = tt.size - 66 := by rw [ByteArray.size_extract]; omega
        have hn : acc' ++ (fr.data.toList ++ tt.data.toList.take 66) ++ [10] ++ owP goL (tt.data.toList.drop 66) = tot := by
          rw [← heq, owP_go (L := tt.data.toList) (by rw [data_len]; exact hlt)]
          simp only [List.append_assoc]
        have HN := Lib.hid hn; have HDd := Lib.hid hd; have HDe := Lib.hid hde
        have hs4 : (tt.extract 66 tt.size).size ≤ 7940 := by omega
        have hs5 : (tt.extract 66 tt.size).size < tt.size := by omega
        clear heq hI hx hn hd hde hze
        go_wp2_with fail
        refine (line_c B b acc' _ wr HI2.out hs3 (by omega) (by omega)).mono ?_
        rw [HDd.out]
        rintro e w5 ⟨rfl, hI5, hB5⟩
        have HI5 := Lib.hid hI5
        have hBB := hBw.trans hB5
        clear hI5 hB5 hBw
        go_wp2_with fail
        go_quiet (fail)
        go_wp2
        go_roundw
        case rel => exact ⟨⟨goL.toArray⟩, tt.extract 66 tt.size, _, rfl, rfl, by decide, by omega, by rw [HDe.out]; exact HN.out, HI5.out.keep (below_dn (Below.refl _ _) _), below_dn hBB _⟩
        case measure => simp [szOf]; omega
      · have g1 : decide ((66 : Int) < (tt.size : Int)) = false := by simp; omega
        have g2 : decide (66 < tt.size) = false := by simp; omega
        have hs1 : fr.size + tt.size ≤ 1000 := by omega
        have hs3 : (fr ++ tt).size ≤ 1000000 := by rw [ByteArray.size_append]; omega
        have hd : (fr ++ tt).data.toList = fr.data.toList ++ tt.data.toList := by rw [ByteArray.data_append, Array.toList_append]
        have hn : acc' ++ (fr.data.toList ++ tt.data.toList) ++ [10] = tot := by
          rw [← heq, owP_end (L := tt.data.toList) (by rw [data_len]; exact hlt)]
          simp only [List.append_assoc]
        have HN := Lib.hid hn; have HDd := Lib.hid hd
        clear heq hI hn hd
        go_wp2_with fail
        refine (line_c B b acc' _ wr HI2.out hs3 (by omega) (by omega)).mono ?_
        rw [HDd.out, HN.out]
        rintro e w5 ⟨rfl, hI5, hB5⟩
        have hBB := hBw.trans hB5
        clear hB5 hBw
        go_wp2
        go_end0
        exact ⟨rfl, hI5, hBB⟩
  · have f1 : decide (0 < x0) = false := by simp; omega
    have hz : x0 = 0 := by omega
    have hbl : (⟨#[]⟩ ++ ⟨(Lib.repeatL [32] 6).toArray⟩ : ByteArray).data.toList = hdP x0.toNat := by rw [hz]; decide
    obtain ⟨rp, hrp⟩ : ∃ rp : ByteArray, rp = ⟨(Lib.repeatL [32] 6).toArray⟩ := ⟨_, rfl⟩
    have hrps : rp.size = 6 := by rw [hrp]; rfl
    have hsum : (⟨#[]⟩ : ByteArray).size + rp.size ≤ 1000 := by rw [hrps]; decide
    have hsum2 : 0 + rp.size ≤ 1000 := by omega
    have hsum3 : rp.size ≤ 1000 := by omega
    have hns1 : ¬ 9223372036854775807 < (⟨#[]⟩ : ByteArray).size + rp.size := by omega
    have hns2 : ¬ 9223372036854775807 < 0 + rp.size := by omega
    have hns3 : ¬ 9223372036854775807 < rp.size := by omega
    rw [← hrp] at hbl
    have Hfd := Lib.hid hbl
    have Hfs := Lib.hid (show (⟨#[]⟩ ++ rp : ByteArray).size ≤ 6 by rw [ByteArray.size_append, hrps]; decide)
    have HRp := Lib.hid (fun wx => show Calls Tryz.prog 45 #[.string ⟨#[32]⟩, .int .i64 6] wx (fun e w' => e = .returned (.string rp) ∧ Below wx.heap.size wx w') by
      rw [hrp]; exact Tryz.strings_Repeat ⟨#[32]⟩ 6 wx (by omega) (by decide))
    have HB0 := Lib.hid (show Below B w (w.alloc (.cells #[.int .i64 x0, .string x1, .int .i64 x2] 34)) from hBx.mono hB)
    have HI0 := H
    clear hz hrp hrps hbl hBx
    go_enter Tryz.func26, Tryz.ntmps26
    go_wp2_with fail
    go_region_held3 (fun w' => w'.cell? ⟨w.heap.size, 1, none⟩ = some (.string x1))
      (first | go_keep | exact ck hBr (by assumption))
      ((go_at_call 45; refine (HRp.out _).mono ?_; rintro e w' ⟨rfl, hBr⟩))
    have HI := Lib.hid (HI0.out.keep (show Below (w.alloc (.cells #[.int .i64 x0, .string x1, .int .i64 x2] 34)).heap.size (w.alloc (.cells #[.int .i64 x0, .string x1, .int .i64 x2] 34)) w' from ((Below.refl _ _).drew).trans hBr))
    have HB1 := Lib.hid (show Below B w w' from HB0.out.trans ((((Below.refl _ _).drew).trans hBr).mono (show B ≤ (w.alloc (.cells #[.int .i64 x0, .string x1, .int .i64 x2] 34)).heap.size from by have := HB0.out.size; omega)))
    clear hBr c0 c1 c2
    go_wp2_with fail
    go_loopw [5, 6] (fun a c wr => ∃ (fr tt : ByteArray) (acc' : List UInt8), a = .string fr ∧ c = .string tt ∧ fr.size ≤ 6 ∧ tt.size ≤ 8006 ∧ acc' ++ owP fr.data.toList tt.data.toList = tot ∧ IB B b acc' wr ∧ Below B w wr) (fun _ c _ => szOf c)
    case atStart => exact ⟨⟨#[]⟩ ++ rp, x1, acc, rfl, rfl, Hfs.out, by omega, by rw [Hfd.out]; exact Hr0.out, HI.out, HB1.out⟩
    case round =>
      obtain ⟨fr, tt, acc', rfl, rfl, hfr, htt, heq, hI, hBw⟩ := hrel
      have hal : acc'.length ≤ 60000000 := by
        have := congrArg List.length heq
        simp only [List.length_append] at this
        omega
      have HI2 := Lib.hid hI
      have hBs := hBw.size
      by_cases hlt : 66 < tt.size
      · have g1 : decide ((66 : Int) < (tt.size : Int)) = true := by simp; omega
        have g2 : decide (66 < tt.size) = true := by simp; omega
        have hx : (tt.extract 0 66).size = 66 := by rw [ByteArray.size_extract]; omega
        have hs1 : fr.size + (tt.extract 0 66).size ≤ 1000 := by omega
        have hs3 : (fr ++ tt.extract 0 66).size ≤ 1000000 := by rw [ByteArray.size_append]; omega
        have hd : (fr ++ tt.extract 0 66).data.toList = fr.data.toList ++ tt.data.toList.take 66 := by
          rw [ByteArray.data_append, Array.toList_append, Lib.extract_from_zero]
        have hde : (tt.extract 66 tt.size).data.toList = tt.data.toList.drop 66 := Lib.extract_to_end tt 66
        have hze : (tt.extract 66 tt.size).size = tt.size - 66 := by rw [ByteArray.size_extract]; omega
        have hn : acc' ++ (fr.data.toList ++ tt.data.toList.take 66) ++ [10] ++ owP goL (tt.data.toList.drop 66) = tot := by
          rw [← heq, owP_go (L := tt.data.toList) (by rw [data_len]; exact hlt)]
          simp only [List.append_assoc]
        have HN := Lib.hid hn; have HDd := Lib.hid hd; have HDe := Lib.hid hde
        have hs4 : (tt.extract 66 tt.size).size ≤ 7940 := by omega
        have hs5 : (tt.extract 66 tt.size).size < tt.size := by omega
        clear heq hI hx hn hd hde hze
        go_wp2_with fail
        refine (line_c B b acc' _ wr HI2.out hs3 (by omega) (by omega)).mono ?_
        rw [HDd.out]
        rintro e w5 ⟨rfl, hI5, hB5⟩
        have HI5 := Lib.hid hI5
        have hBB := hBw.trans hB5
        clear hI5 hB5 hBw
        go_wp2_with fail
        go_quiet (fail)
        go_wp2
        go_roundw
        case rel => exact ⟨⟨goL.toArray⟩, tt.extract 66 tt.size, _, rfl, rfl, by decide, by omega, by rw [HDe.out]; exact HN.out, HI5.out.keep (below_dn (Below.refl _ _) _), below_dn hBB _⟩
        case measure => simp [szOf]; omega
      · have g1 : decide ((66 : Int) < (tt.size : Int)) = false := by simp; omega
        have g2 : decide (66 < tt.size) = false := by simp; omega
        have hs1 : fr.size + tt.size ≤ 1000 := by omega
        have hs3 : (fr ++ tt).size ≤ 1000000 := by rw [ByteArray.size_append]; omega
        have hd : (fr ++ tt).data.toList = fr.data.toList ++ tt.data.toList := by rw [ByteArray.data_append, Array.toList_append]
        have hn : acc' ++ (fr.data.toList ++ tt.data.toList) ++ [10] = tot := by
          rw [← heq, owP_end (L := tt.data.toList) (by rw [data_len]; exact hlt)]
          simp only [List.append_assoc]
        have HN := Lib.hid hn; have HDd := Lib.hid hd
        clear heq hI hn hd
        go_wp2_with fail
        refine (line_c B b acc' _ wr HI2.out hs3 (by omega) (by omega)).mono ?_
        rw [HDd.out, HN.out]
        rintro e w5 ⟨rfl, hI5, hB5⟩
        have hBB := hBw.trans hB5
        clear hB5 hBw
        go_wp2
        go_end0
        exact ⟨rfl, hI5, hBB⟩
end Go.Proofs.YtdandmbgdndnjaaGreatDoor

/- Contract of the document's WriteOld. -/
import Derived.Test.YtdandmbgdndnjaaGreatDoorWrtG
namespace Go.Proofs.YtdandmbgdndnjaaGreatDoor
open Go.RowKit

set_option maxRecDepth 100000 in
set_option maxHeartbeats 4000000 in
theorem rWriteOld_c (v : Value) (l : List Ln) (w : World) (h : RL w v l) :
    Calls Tryz.prog 13 #[v] w fun e w' => e = .returned (.tuple #[.string ⟨(wrA (vlB l) (l.flatMap owS)).1.toArray⟩, .int .i64 ((wrA (vlB l) (l.flatMap owS)).2 : Int)]) ∧ Below w.heap.size w w' := by
  have hV := Lib.hid (rValid_c v l w h)
  obtain ⟨A, cap, rfl, hmx, _⟩ := id h
  have H := Lib.hid h
  clear h
  generalize hq : vlB l = q
  rw [hq] at hV
  cases q
  · have HW := Lib.hid (show wrA false (l.flatMap owS) = ([], 2) from rfl)
    clear hq
    go_enter Tryz.func13, Tryz.ntmps13
    go_wp2_with fail
    refine hV.out.mono ?_
    rintro e w1 ⟨rfl, hB⟩
    go_wp2
    go_ret2
    rw [HW.out]
    exact ⟨rfl, hB⟩
  · have hok : ∀ x ∈ l, okL x = true := by
      unfold vlB at hq
      rw [Bool.and_eq_true] at hq
      exact fun x hx => List.all_eq_true.1 hq.2 x hx
    have hl2 : l.length ≤ 200 := by
      unfold vlB at hq
      rw [Bool.and_eq_true] at hq
      exact of_decide_eq_true hq.1
    have Hok := Lib.hid hok
    have Hfl := Lib.hid (fun k => flat_len (f := owS) (fun x hx => owS_len hx) hok k)
    obtain ⟨bs, hbs⟩ : ∃ bs : List UInt8, bs = l.flatMap owS := ⟨_, rfl⟩
    rw [← hbs]
    have Hbs := Lib.hid hbs
    clear hq hok hbs
    go_enter Tryz.func13, Tryz.ntmps13
    go_wp2_with fail
    refine hV.out.mono ?_
    rintro e w1 ⟨rfl, hB⟩
    have H1 := Lib.hid (H.out.keep hB)
    clear hV
    go_wp2_with fail
    go_loop [4, 5] (fun a t => ∃ (k : Nat) (ob : ByteArray), k ≤ l.length ∧ t = .int .i64 (k : Int) ∧ a = .string ob ∧ ob.data.toList = (l.take k).flatMap owS) (fun _ t => l.length - (intOf t).toNat)
    case atStart => exact ⟨0, ⟨#[]⟩, by omega, rfl, rfl, rfl⟩
    case round =>
      obtain ⟨k, ob, hk, rfl, rfl, hob⟩ := hrel
      have hk0 : (0 : Int) ≤ (k : Int) := by omega
      by_cases hlt : k < l.length
      · skip
        obtain ⟨x, hx⟩ : ∃ x, l[k]? = some x := ⟨_, List.getElem?_eq_getElem hlt⟩
        obtain ⟨bb, o, rfl, c0, c1, c2⟩ := H1.out.at hx
        have hxo : okL x = true := Hok.out x (List.mem_of_getElem? hx)
        obtain ⟨b0, b1, b2⟩ := okL_bounds hxo
        have hst := flat_step (f := owS) hx
        have hfl := Hfl.out (k + 1)
        rw [hst] at hfl
        obtain ⟨x0, x1, x2⟩ := x
        simp only at c0 c1 c2 b0 b1 b2
        obtain ⟨tot, htot⟩ : ∃ tot : List UInt8, tot = (l.take (k + 1)).flatMap owS := ⟨_, rfl⟩
        rw [hst, ← hob] at htot
        have htl : tot.length ≤ 20000 * l.length := by rw [htot, hob]; exact hfl
        have Htot := Lib.hid (show tot = (l.take (k + 1)).flatMap owS by rw [hst, htot, hob])
        obtain ⟨n0, rfl⟩ : ∃ n0 : Nat, x0 = (n0 : Int) := ⟨x0.toNat, by omega⟩
        obtain ⟨ib, hib⟩ : ∃ ib : ByteArray, ib = ⟨(dgP n0).toArray⟩ := ⟨_, rfl⟩
        have hibd : ib.data.toList = dgP n0 := by rw [hib]
        have hibs : ib.size ≤ 5 := by
          have := dgP_len (n := n0) (by omega)
          rw [← data_len, hibd]; exact this
        have hpad : ib.data.toList ++ List.replicate (6 - ib.size) 32 = hdP n0 := by
          unfold hdP
          rw [← data_len ib, hibd]
        have hr1 : ob.data.toList ++ owP (hdP n0) x1.data.toList = tot := by rw [htot]; rfl
        have HLb := Lib.hid (fun wx => Label_c n0 (by omega) wx)
        have Hib := Lib.hid hib
        have Hpad := Lib.hid hpad
        have Hr1 := Lib.hid hr1
        have c1' := c1
        have HC1 := Lib.hid c1'
        clear hib hibd hpad hr1 htot hob hst hfl hx hxo c1'
        go_wp2_with fail
        refine (HLb.out _).mono ?_
        rw [← Hib.out]
        rintro e w2 ⟨rfl, rfl⟩
        go_wp2_with fail
        go_loop [6] (fun a => ∃ hb : ByteArray, a = .string hb ∧ hb.size ≤ 6 ∧ hb.data.toList ++ List.replicate (6 - hb.size) 32 = hdP n0) (fun a => 6 - szOf a)
        case atStart => exact ⟨ib, rfl, by omega, Hpad.out⟩
        case round =>
          obtain ⟨hb, rfl, hbs6, hbe⟩ := hrel
          by_cases hlt3 : hb.size < 6
          · have g1 : decide ((hb.size : Int) < 6) = true := by simp; omega
            have g2 : decide (hb.size < 6) = true := by simp; omega
            have hs1 : hb.size + 1 ≤ 1000 := by omega
            have hz : (hb ++ ⟨#[32]⟩).size = hb.size + 1 := by rw [ByteArray.size_append]; rfl
            have hn : (hb ++ ⟨#[32]⟩).data.toList ++ List.replicate (6 - (hb ++ ⟨#[32]⟩).size) 32 = hdP n0 := by
              rw [← hbe, hz, ByteArray.data_append, Array.toList_append, show 6 - hb.size = (6 - (hb.size + 1)) + 1 by omega, List.replicate_succ, List.append_assoc]
              rfl
            have HN := Lib.hid hn
            have hz1 : (hb ++ ⟨#[32]⟩).size ≤ 6 := by omega
            have hz2 : hb.size < (hb ++ ⟨#[32]⟩).size := by omega
            clear hbe hn hz
            go_wp2
            go_round
            case rel => exact ⟨_, rfl, hz1, HN.out⟩
            case measure => show 6 - (hb ++ ⟨#[32]⟩).size < 6 - hb.size; omega
          · have g1 : decide ((hb.size : Int) < 6) = false := by simp; omega
            have g2 : decide (hb.size < 6) = false := by simp; omega
            have hbd : hb.data.toList = hdP n0 := by rw [← hbe, show 6 - hb.size = 0 by omega]; simp
            have Hr2 := Lib.hid (show ob.data.toList ++ owP hb.data.toList x1.data.toList = tot by rw [hbd]; exact Hr1.out)
            clear hbe hbd
            go_wp2_with fail
            go_loop [4, 6, 7] (fun a c d => ∃ (oc hd tt : ByteArray), a = .string oc ∧ c = .string hd ∧ d = .string tt ∧ hd.size ≤ 6 ∧ tt.size ≤ 8006 ∧ oc.data.toList ++ owP hd.data.toList tt.data.toList = tot) (fun _ _ d => szOf d)
            case atStart => exact ⟨ob, hb, x1, rfl, rfl, rfl, hbs6, by omega, Hr2.out⟩
            case round =>
              obtain ⟨oc, hd, tt, rfl, rfl, rfl, hhd, htt, heq⟩ := hrel
              have hal : oc.size ≤ 4000000 := by
                have := congrArg List.length heq
                rw [List.length_append, data_len] at this
                omega
              by_cases hlt2 : 66 < tt.size
              · have g3 : decide ((66 : Int) < (tt.size : Int)) = true := by simp; omega
                have g4 : decide (66 < tt.size) = true := by simp; omega
                have hx1 : (tt.extract 0 66).size = 66 := by rw [ByteArray.size_extract]; omega
                have hs1 : hd.size + (tt.extract 0 66).size ≤ 1000 := by omega
                have hza : (hd ++ tt.extract 0 66).size = hd.size + 66 := by rw [ByteArray.size_append, hx1]
                have hs2 : (hd ++ tt.extract 0 66).size + 1 ≤ 1000 := by omega
                have hzb : (hd ++ tt.extract 0 66 ++ ⟨#[10]⟩).size = hd.size + 67 := by rw [ByteArray.size_append, hza]; rfl
                have hs3 : oc.size + (hd ++ tt.extract 0 66 ++ ⟨#[10]⟩).size ≤ 5000000 := by omega
                have hze : (tt.extract 66 tt.size).size = tt.size - 66 := by rw [ByteArray.size_extract]; omega
                have hn : (oc ++ (hd ++ tt.extract 0 66 ++ ⟨#[10]⟩)).data.toList ++ owP goL (tt.extract 66 tt.size).data.toList = tot := by
                  rw [← heq, owP_go (L := tt.data.toList) (by rw [data_len]; exact hlt2), Lib.extract_to_end, ByteArray.data_append, Array.toList_append, ByteArray.data_append, Array.toList_append, ByteArray.data_append, Array.toList_append, Lib.extract_from_zero]
                  simp only [List.append_assoc]
                have HN := Lib.hid hn
                have hs4 : (tt.extract 66 tt.size).size ≤ 7940 := by omega
                have hs5 : (tt.extract 66 tt.size).size < tt.size := by omega
                clear heq hx1 hn hze hza hzb
                go_wp2
                go_round
                case rel => exact ⟨_, ⟨goL.toArray⟩, tt.extract 66 tt.size, rfl, rfl, rfl, by decide, by omega, HN.out⟩
                case measure => simp [szOf]; omega
              · have g3 : decide ((66 : Int) < (tt.size : Int)) = false := by simp; omega
                have g4 : decide (66 < tt.size) = false := by simp; omega
                have hs1 : hd.size + tt.size ≤ 1000 := by omega
                have hza : (hd ++ tt).size = hd.size + tt.size := by rw [ByteArray.size_append]
                have hs2 : (hd ++ tt).size + 1 ≤ 1000 := by omega
                have hzb : (hd ++ tt ++ ⟨#[10]⟩).size = hd.size + tt.size + 1 := by rw [ByteArray.size_append, hza]; rfl
                have hs3 : oc.size + (hd ++ tt ++ ⟨#[10]⟩).size ≤ 5000000 := by omega
                have hn : (oc ++ (hd ++ tt ++ ⟨#[10]⟩)).data.toList = (l.take (k + 1)).flatMap owS := by
                  rw [← Htot.out, ← heq, owP_end (L := tt.data.toList) (by rw [data_len]; exact hlt2), ByteArray.data_append, Array.toList_append, ByteArray.data_append, Array.toList_append, ByteArray.data_append, Array.toList_append]
                have HN := Lib.hid hn
                clear heq hn hza hzb
                go_wp2
                go_round
                case rel => exact ⟨k + 1, _, by omega, by go_num, rfl, HN.out⟩
                case measure => simp [intOf]; omega
      · obtain rfl : k = l.length := by omega
        rw [List.take_length, ← Hbs.out] at hob
        have hfl := Hfl.out l.length
        rw [List.take_length, ← Hbs.out] at hfl
        have hobs : ob.size = bs.length := by rw [← data_len, hob]
        have hob2 : ob = ⟨bs.toArray⟩ := by rw [← hob]
        have Hob := Lib.hid hob2
        by_cases h8 : 8000 < ob.size
        · have g1 : decide ((8000 : Int) < (ob.size : Int)) = true := by simp; omega
          have g2 : decide (8000 < ob.size) = true := by simp; omega
          have HW := Lib.hid (show wrA true bs = ([], 4) by unfold wrA; rw [if_neg (by decide), if_pos (by omega)])
          clear h8 hob hob2 hobs
          go_wp2
          go_ret2
          rw [HW.out]
          exact ⟨rfl, hB⟩
        · have g1 : decide ((8000 : Int) < (ob.size : Int)) = false := by simp; omega
          have g2 : decide (8000 < ob.size) = false := by simp; omega
          have HW := Lib.hid (show wrA true bs = (bs, 0) by unfold wrA; rw [if_neg (by decide), if_neg (by omega)])
          clear h8 hob hob2 hobs
          go_wp2
          go_ret2
          rw [HW.out, Hob.out]
          exact ⟨rfl, hB⟩
end Go.Proofs.YtdandmbgdndnjaaGreatDoor

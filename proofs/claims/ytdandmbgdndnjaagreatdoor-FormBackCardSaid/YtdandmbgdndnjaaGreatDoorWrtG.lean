/- Contracts of the document's Label and WriteNew. -/
import Derived.Test.YtdandmbgdndnjaaGreatDoorWrtF
namespace Go.Proofs.YtdandmbgdndnjaaGreatDoor
open Go.RowKit

theorem enc_digit (d : Nat) (h : d ≤ 9) : Utf8.encode (48 + (d : Int)) = ⟨#[UInt8.ofNat (48 + d)]⟩ := by
  rcases (by omega : d = 0 ∨ d = 1 ∨ d = 2 ∨ d = 3 ∨ d = 4 ∨ d = 5 ∨ d = 6 ∨ d = 7 ∨ d = 8 ∨ d = 9) with rfl | rfl | rfl | rfl | rfl | rfl | rfl | rfl | rfl | rfl
  all_goals decide

set_option maxRecDepth 100000 in
set_option maxHeartbeats 2000000 in
theorem Label_c (n : Nat) (hn : n ≤ 99999) (w : World) : Calls Tryz.prog 25 #[.int .i64 (n : Int)] w fun e w' => e = .returned (.string ⟨(dgP n).toArray⟩) ∧ w = w' := by
  induction n using Nat.strongRecOn generalizing w with
  | _ n ih =>
    by_cases h0 : n = 0
    · have f0 : ((n : Int) == 0) = true := by simp; omega
      have HE := Lib.hid (show dgP n = [] by unfold dgP; rw [if_pos h0])
      clear h0 ih
      go_enter Tryz.func25, Tryz.ntmps25
      go_wp2
      go_ret
      exact ⟨by rw [HE.out]; rfl, rfl⟩
    · have f0 : ((n : Int) == 0) = false := by simp; omega
      have HI := Lib.hid (ih (n / 10) (by omega) (by omega) w)
      have HS := Lib.hid (dgP_step h0)
      obtain ⟨q, hq⟩ : ∃ q : ByteArray, q = ⟨(dgP (n / 10)).toArray⟩ := ⟨_, rfl⟩
      have hqs : q.size ≤ 5 := by
        have : q.size = (dgP (n / 10)).length := by rw [hq]; rfl
        have := dgP_len (n := n / 10) (by omega)
        omega
      have HQ := Lib.hid hq
      obtain ⟨m, hm⟩ : ∃ m : Nat, m = n / 10 := ⟨_, rfl⟩
      have hdiv : (n : Int) / 10 = (m : Int) := by rw [hm]; omega
      have Hm := Lib.hid hm
      have hi0 : (0 : Int) ≤ (n : Int) := by omega
      rw [← hm] at HI
      clear h0 ih hq hm
      go_enter Tryz.func25, Tryz.ntmps25
      go_wp2_with fail
      refine HI.out.mono ?_
      rw [Hm.out, ← HQ.out]
      rintro e w1 ⟨rfl, rfl⟩
      clear hdiv
      obtain ⟨d, hd⟩ : ∃ d : Nat, d = n % 10 := ⟨_, rfl⟩
      have hd9 : d ≤ 9 := by omega
      have hmod : (n : Int) % 10 = (d : Int) := by omega
      have Hdd := Lib.hid hd
      clear hd hn
      have henc := enc_digit d hd9
      generalize henE : Utf8.encode (48 + (d : Int)) = E at henc
      have hEs : E.size = 1 := by rw [henc]; rfl
      have hsum : q.size + E.size ≤ 1000 := by omega
      have Henc := Lib.hid henc
      clear henc hEs
      go_wp2
      go_ret
      have hfin : q ++ E = ⟨(dgP n).toArray⟩ := by
        apply Go.WideShapes.bytes_inj
        rw [ByteArray.data_append, Array.toList_append, HS.out, ← Hdd.out, Henc.out, HQ.out]
      exact ⟨congrArg (fun b => Ending.returned (Value.string b)) hfin, rfl⟩

set_option maxRecDepth 100000 in
set_option maxHeartbeats 4000000 in
theorem rWriteNew_c (v : Value) (l : List Ln) (w : World) (h : RL w v l) :
    Calls Tryz.prog 11 #[v] w fun e w' => e = .returned (.tuple #[.string ⟨(wrA (vlB l) (l.flatMap nwS)).1.toArray⟩, .int .i64 ((wrA (vlB l) (l.flatMap nwS)).2 : Int)]) ∧ Below w.heap.size w w' := by
  have hV := Lib.hid (rValid_c v l w h)
  obtain ⟨A, cap, rfl, hmx, _⟩ := id h
  have H := Lib.hid h
  clear h
  generalize hq : vlB l = q
  rw [hq] at hV
  cases q
  · have HW := Lib.hid (show wrA false (l.flatMap nwS) = ([], 2) from rfl)
    clear hq
    go_enter Tryz.func11, Tryz.ntmps11
    go_wp2_with fail
    refine hV.out.mono ?_
    rintro e w1 ⟨rfl, hB⟩
    go_wp2
    go_ret2
    rw [HW.out]
    exact ⟨rfl, hB⟩
  · have hok : ∀ x ∈ l, okL x = true := by
      unfold vlB at hq
      rw [Bool.and_eq_true] at hq
      exact fun x hx => List.all_eq_true.1 hq.2 x hx
    have hl2 : l.length ≤ 200 := by
      unfold vlB at hq
      rw [Bool.and_eq_true] at hq
      exact of_decide_eq_true hq.1
    have Hok := Lib.hid hok
    have Hfl := Lib.hid (fun k => flat_len (f := nwS) (fun x hx => nwS_len hx) hok k)
    obtain ⟨bs, hbs⟩ : ∃ bs : List UInt8, bs = l.flatMap nwS := ⟨_, rfl⟩
    rw [← hbs]
    have Hbs := Lib.hid hbs
    clear hq hok hbs
    go_enter Tryz.func11, Tryz.ntmps11
    go_wp2_with fail
    refine hV.out.mono ?_
    rintro e w1 ⟨rfl, hB⟩
    have H1 := Lib.hid (H.out.keep hB)
    clear hV
    go_wp2_with fail
    go_loop [4, 5] (fun a t => ∃ (k : Nat) (ob : ByteArray), k ≤ l.length ∧ t = .int .i64 (k : Int) ∧ a = .string ob ∧ ob.data.toList = (l.take k).flatMap nwS) (fun _ t => l.length - (intOf t).toNat)
    case atStart => exact ⟨0, ⟨#[]⟩, by omega, rfl, rfl, rfl⟩
    case round =>
      obtain ⟨k, ob, hk, rfl, rfl, hob⟩ := hrel
      have hk0 : (0 : Int) ≤ (k : Int) := by omega
      by_cases hlt : k < l.length
      · skip
        obtain ⟨x, hx⟩ : ∃ x, l[k]? = some x := ⟨_, List.getElem?_eq_getElem hlt⟩
        obtain ⟨bb, o, rfl, c0, c1, c2⟩ := H1.out.at hx
        have hxo : okL x = true := Hok.out x (List.mem_of_getElem? hx)
        obtain ⟨b0, b1, b2⟩ := okL_bounds hxo
        have hst := flat_step (f := nwS) hx
        have hfl := Hfl.out (k + 1)
        rw [hst] at hfl
        have htn := txN_len hxo
        obtain ⟨x0, x1, x2⟩ := x
        simp only at c0 c1 c2 b0 b1 b2
        obtain ⟨tot, htot⟩ : ∃ tot : List UInt8, tot = (l.take (k + 1)).flatMap nwS := ⟨_, rfl⟩
        rw [hst, ← hob] at htot
        have htl : tot.length ≤ 20000 * l.length := by rw [htot, hob]; exact hfl
        have Htot := Lib.hid (show tot = (l.take (k + 1)).flatMap nwS by rw [hst, htot, hob])
        by_cases hl : 0 < x0
        · obtain ⟨n0, rfl⟩ : ∃ n0 : Nat, x0 = (n0 : Int) := ⟨x0.toNat, by omega⟩
          have f1 : decide ((0 : Int) < (n0 : Int)) = true := by simp; omega
          have f2 : decide (0 < n0) = true := by simp; omega
          obtain ⟨ib, hib⟩ : ∃ ib : ByteArray, ib = ⟨(dgP n0).toArray⟩ := ⟨_, rfl⟩
          have hibs : ib.size ≤ 5 := by
            have : ib.size = (dgP n0).length := by rw [hib]; rfl
            have := dgP_len (n := n0) (by omega)
            omega
          have hs1 : ib.size + 1 ≤ 1000 := by omega
          have hsj : (ib ++ ⟨#[32]⟩).size = ib.size + 1 := by rw [ByteArray.size_append]; rfl
          have hs2 : (ib ++ ⟨#[32]⟩).size + x1.size ≤ 10000 := by omega
          have htx : (ib ++ ⟨#[32]⟩ ++ x1).data.toList = txN ((n0 : Int), x1, x2) := by
            rw [ByteArray.data_append, Array.toList_append, ByteArray.data_append, Array.toList_append, hib]
            unfold txN
            rw [if_pos hl]
            rfl
          have Hsz := Lib.hid (show (ib ++ ⟨#[32]⟩ ++ x1).size ≤ 8006 by rw [← data_len, htx]; exact htn)
          have Hr1 := Lib.hid (show ob.data.toList ++ nwP (ib ++ ⟨#[32]⟩ ++ x1).data.toList = tot by rw [htx, htot]; rfl)
          have HLb := Lib.hid (fun wx => Label_c n0 (by omega) wx)
          have Hib := Lib.hid hib
          clear hib hsj htx htot hob hst hfl htn hx hxo
          go_wp2_with fail
          refine (HLb.out _).mono ?_
          rw [← Hib.out]
          rintro e w2 ⟨rfl, rfl⟩
          go_wp2_with fail
          go_loop [4, 6] (fun a c => ∃ (oc tt : ByteArray), a = .string oc ∧ c = .string tt ∧ tt.size ≤ 8006 ∧ oc.data.toList ++ nwP tt.data.toList = tot) (fun _ c => szOf c)
          case atStart => exact ⟨ob, ib ++ ⟨#[32]⟩ ++ x1, rfl, rfl, Hsz.out, Hr1.out⟩
          case round =>
            obtain ⟨oc, tt, rfl, rfl, htt, heq⟩ := hrel
            have hal : oc.size ≤ 4000000 := by
              have := congrArg List.length heq
              rw [List.length_append, data_len] at this
              omega
            by_cases hlt2 : 100 < tt.size
            · have g1 : decide ((100 : Int) < (tt.size : Int)) = true := by simp; omega
              have g2 : decide (100 < tt.size) = true := by simp; omega
              have hx1 : (tt.extract 0 100).size = 100 := by rw [ByteArray.size_extract]; omega
              have hs1 : (tt.extract 0 100).size + 3 ≤ 1000 := by omega
              have hsz2 : (tt.extract 0 100 ++ ⟨#[38, 10, 38]⟩).size = 103 := by rw [ByteArray.size_append, hx1]; rfl
              have hs2 : oc.size + (tt.extract 0 100 ++ ⟨#[38, 10, 38]⟩).size ≤ 5000000 := by omega
              have hze : (tt.extract 100 tt.size).size = tt.size - 100 := by rw [ByteArray.size_extract]; omega
              have hn : (oc ++ (tt.extract 0 100 ++ ⟨#[38, 10, 38]⟩)).data.toList ++ nwP (tt.extract 100 tt.size).data.toList = tot := by
                rw [← heq, nwP_go (L := tt.data.toList) (by rw [data_len]; exact hlt2), Lib.extract_to_end, ByteArray.data_append, Array.toList_append, ByteArray.data_append, Array.toList_append, Lib.extract_from_zero]
                simp only [List.append_assoc]
              have HN := Lib.hid hn
              have hs4 : (tt.extract 100 tt.size).size ≤ 7906 := by omega
              have hs5 : (tt.extract 100 tt.size).size < tt.size := by omega
              clear heq hx1 hn hze hsz2
              go_wp2
              go_round
              case rel => exact ⟨_, tt.extract 100 tt.size, rfl, rfl, by omega, HN.out⟩
              case measure => simp [szOf]; omega
            · have g1 : decide ((100 : Int) < (tt.size : Int)) = false := by simp; omega
              have g2 : decide (100 < tt.size) = false := by simp; omega
              have hs1 : tt.size + 1 ≤ 1000 := by omega
              have hsz2 : (tt ++ ⟨#[10]⟩).size = tt.size + 1 := by rw [ByteArray.size_append]; rfl
              have hs2 : oc.size + (tt ++ ⟨#[10]⟩).size ≤ 5000000 := by omega
              have hn : (oc ++ (tt ++ ⟨#[10]⟩)).data.toList = (l.take (k + 1)).flatMap nwS := by
                rw [← Htot.out, ← heq, nwP_end (L := tt.data.toList) (by rw [data_len]; exact hlt2), ByteArray.data_append, Array.toList_append, ByteArray.data_append, Array.toList_append]
              have HN := Lib.hid hn
              clear heq hn hsz2
              go_wp2
              go_round
              case rel => exact ⟨k + 1, _, by omega, by go_num, rfl, HN.out⟩
              case measure => simp [intOf]; omega
        · have f1 : decide (0 < x0) = false := by simp; omega
          have htx : x1.data.toList = txN (x0, x1, x2) := by unfold txN; rw [if_neg hl]
          have Hsz := Lib.hid (show x1.size ≤ 8006 by omega)
          have Hr1 := Lib.hid (show ob.data.toList ++ nwP x1.data.toList = tot by rw [htx, htot]; rfl)
          clear htx htot hob hst hfl htn hx hxo
          go_wp2_with fail
          go_loop [4, 6] (fun a c => ∃ (oc tt : ByteArray), a = .string oc ∧ c = .string tt ∧ tt.size ≤ 8006 ∧ oc.data.toList ++ nwP tt.data.toList = tot) (fun _ c => szOf c)
          case atStart => exact ⟨ob, x1, rfl, rfl, Hsz.out, Hr1.out⟩
          case round =>
            obtain ⟨oc, tt, rfl, rfl, htt, heq⟩ := hrel
            have hal : oc.size ≤ 4000000 := by
              have := congrArg List.length heq
              rw [List.length_append, data_len] at this
              omega
            by_cases hlt2 : 100 < tt.size
            · have g1 : decide ((100 : Int) < (tt.size : Int)) = true := by simp; omega
              have g2 : decide (100 < tt.size) = true := by simp; omega
              have hx1 : (tt.extract 0 100).size = 100 := by rw [ByteArray.size_extract]; omega
              have hs1 : (tt.extract 0 100).size + 3 ≤ 1000 := by omega
              have hsz2 : (tt.extract 0 100 ++ ⟨#[38, 10, 38]⟩).size = 103 := by rw [ByteArray.size_append, hx1]; rfl
              have hs2 : oc.size + (tt.extract 0 100 ++ ⟨#[38, 10, 38]⟩).size ≤ 5000000 := by omega
              have hze : (tt.extract 100 tt.size).size = tt.size - 100 := by rw [ByteArray.size_extract]; omega
              have hn : (oc ++ (tt.extract 0 100 ++ ⟨#[38, 10, 38]⟩)).data.toList ++ nwP (tt.extract 100 tt.size).data.toList = tot := by
                rw [← heq, nwP_go (L := tt.data.toList) (by rw [data_len]; exact hlt2), Lib.extract_to_end, ByteArray.data_append, Array.toList_append, ByteArray.data_append, Array.toList_append, Lib.extract_from_zero]
                simp only [List.append_assoc]
              have HN := Lib.hid hn
              have hs4 : (tt.extract 100 tt.size).size ≤ 7906 := by omega
              have hs5 : (tt.extract 100 tt.size).size < tt.size := by omega
              clear heq hx1 hn hze hsz2
              go_wp2
              go_round
              case rel => exact ⟨_, tt.extract 100 tt.size, rfl, rfl, by omega, HN.out⟩
              case measure => simp [szOf]; omega
            · have g1 : decide ((100 : Int) < (tt.size : Int)) = false := by simp; omega
              have g2 : decide (100 < tt.size) = false := by simp; omega
              have hs1 : tt.size + 1 ≤ 1000 := by omega
              have hsz2 : (tt ++ ⟨#[10]⟩).size = tt.size + 1 := by rw [ByteArray.size_append]; rfl
              have hs2 : oc.size + (tt ++ ⟨#[10]⟩).size ≤ 5000000 := by omega
              have hn : (oc ++ (tt ++ ⟨#[10]⟩)).data.toList = (l.take (k + 1)).flatMap nwS := by
                rw [← Htot.out, ← heq, nwP_end (L := tt.data.toList) (by rw [data_len]; exact hlt2), ByteArray.data_append, Array.toList_append, ByteArray.data_append, Array.toList_append]
              have HN := Lib.hid hn
              clear heq hn hsz2
              go_wp2
              go_round
              case rel => exact ⟨k + 1, _, by omega, by go_num, rfl, HN.out⟩
              case measure => simp [intOf]; omega
      · obtain rfl : k = l.length := by omega
        rw [List.take_length, ← Hbs.out] at hob
        have hfl := Hfl.out l.length
        rw [List.take_length, ← Hbs.out] at hfl
        have hobs : ob.size = bs.length := by rw [← data_len, hob]
        have hob2 : ob = ⟨bs.toArray⟩ := by rw [← hob]
        have Hob := Lib.hid hob2
        by_cases h8 : 8000 < ob.size
        · have g1 : decide ((8000 : Int) < (ob.size : Int)) = true := by simp; omega
          have g2 : decide (8000 < ob.size) = true := by simp; omega
          have HW := Lib.hid (show wrA true bs = ([], 4) by unfold wrA; rw [if_neg (by decide), if_pos (by omega)])
          clear h8 hob hob2 hobs
          go_wp2
          go_ret2
          rw [HW.out]
          exact ⟨rfl, hB⟩
        · have g1 : decide ((8000 : Int) < (ob.size : Int)) = false := by simp; omega
          have g2 : decide (8000 < ob.size) = false := by simp; omega
          have HW := Lib.hid (show wrA true bs = (bs, 0) by unfold wrA; rw [if_neg (by decide), if_neg (by omega)])
          clear h8 hob hob2 hobs
          go_wp2
          go_ret2
          rw [HW.out, Hob.out]
          exact ⟨rfl, hB⟩
end Go.Proofs.YtdandmbgdndnjaaGreatDoor

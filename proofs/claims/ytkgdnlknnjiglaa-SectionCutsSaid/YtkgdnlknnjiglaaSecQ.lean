/- Contract of the document's Valid. -/
import Derived.Test.YtkgdnlknnjiglaaSecP
namespace Go.Proofs.Ytkgdnlknnjiglaa
open Go.RowKit

theorem all_take_succ {p : Int → Bool} {l : List Int} {k : Nat} {x : Int} (h : l[k]? = some x) (ha : (l.take k).all p = true) : (l.take (k + 1)).all p = p x := by
  rw [List.take_add_one, h, List.all_append, ha]; simp
theorem all_bad {p : Int → Bool} {l : List Int} {k : Nat} {x : Int} (h : l[k]? = some x) (hp : p x = false) : l.all p = false := by
  rw [List.all_eq_false]; exact ⟨x, List.mem_of_getElem? h, by rw [hp]; decide⟩
set_option maxRecDepth 100000 in
set_option maxHeartbeats 4000000 in
theorem rValid_c (v : Value) (d : DS) (w : World) (h : RD w v d) : Calls Try.prog 16 #[v] w fun e w' => e = .returned (.bool (vldB d)) ∧ Below w.heap.size w w' := by
  have h0 := h
  obtain ⟨ve, vt, rfl, he, ht, hfb⟩ := h
  obtain ⟨t, ht0⟩ : ∃ t, t = vldB d := ⟨_, rfl⟩
  have HT0 := Lib.hid ht0
  rw [← ht0]
  obtain ⟨o1, z1⟩ : ∃ o : Obj, o = .cells #[.int .i64 d.b, ve, vt] 31 := ⟨_, rfl⟩
  have HB := Lib.hid (box_below w o1)
  have HZ := Lib.hid (rsize_c ve d.ex _ (he.keep HB.out))
  have HT := Lib.hid (ht.keep HB.out)
  have HPL := Lib.hid (fun hd => rplaces_c _ d _ (h0.keep HB.out) hd)
  have HD := Lib.hid (Has.new w [.int .i64 d.b, ve, vt] 31)
  rw [z1] at HB HZ HT HPL
  obtain ⟨E, ce, rfl⟩ := he.slice
  obtain ⟨T, ct, rfl⟩ := ht.slice
  have hme := he.len; have hmt := ht.len
  have HFB := Lib.hid hfb
  clear ht0 h0 he ht z1 o1
  by_cases hb : d.b < 0
  · have HF := Lib.hid (show t = false by rw [HT0.out, vld_4 (by omega)])
    go_enter Try.func16, Try.ntmps16
    go_wp2
    go_ret
    exact ⟨ret_b HF.out.symm, HB.out⟩
  · by_cases hl : d.st.length = d.ex.length
    rotate_left
    · have f0 : ((d.st.length : Int) == (d.ex.length : Int)) = false := by simp; omega
      have f1 : ((d.st.length : Int) != (d.ex.length : Int)) = true := by simp; omega
      have HF := Lib.hid (show t = false by rw [HT0.out, vld_2 hl])
      clear hl
      go_enter Try.func16, Try.ntmps16
      go_wp2
      go_ret
      exact ⟨ret_b HF.out.symm, HB.out⟩
    have f0 : ((d.st.length : Int) == (d.ex.length : Int)) = true := by simp; omega
    have f1 : ((d.st.length : Int) != (d.ex.length : Int)) = false := by simp; omega
    have HL := Lib.hid hl
    clear hl
    by_cases ho : okE d.ex = true
    rotate_left
    · have ho' : okE d.ex = false := by simpa using ho
      have HF := Lib.hid (show t = false by rw [HT0.out, vld_1 ho'])
      rw [show szE d.ex = -1 by unfold szE; rw [if_neg ho]] at HZ
      clear ho ho'
      go_enter Try.func16, Try.ntmps16
      go_wp2_with fail
      refine HZ.out.mono ?_
      rintro e w1 ⟨rfl, rfl⟩
      go_wp2
      go_ret
      exact ⟨ret_b HF.out.symm, HB.out⟩
    rw [show szE d.ex = pr d.ex by unfold szE; rw [if_pos ho]] at HZ
    have hz0 := (pr_small (okE_iff.1 ho).1 (okE_iff.1 ho).2.1).1
    obtain ⟨z, hz⟩ : ∃ z, z = pr d.ex := ⟨_, rfl⟩
    rw [← hz] at HZ hz0
    have HO := Lib.hid ho
    clear ho hz
    go_enter Try.func16, Try.ntmps16
    go_wp2_with fail
    refine HZ.out.mono ?_
    rintro e w1 ⟨rfl, rfl⟩
    go_wp2_with fail
    go_loop [3] (fun x => ∃ k : Nat, k ≤ d.st.length ∧ x = .int .i64 (k : Int) ∧ (d.st.take k).all nearB = true) (fun x => d.st.length - (intOf x).toNat)
    case atStart => exact ⟨0, Nat.zero_le _, rfl, rfl⟩
    case round =>
      obtain ⟨k, hk, rfl, ha⟩ := hrel
      have HA := Lib.hid ha
      clear ha
      by_cases hlt : k < d.st.length
      · obtain ⟨b5, o5, c5, tv, e5, htv, mt⟩ := HT.out.at_ hlt
        obtain ⟨rfl, rfl⟩ : T = some ⟨b5, o5, none⟩ ∧ ct = c5 := by simpa using e5
        have HTV := Lib.hid htv
        have HNR := Lib.hid (fun w => rnear_c tv w)
        clear e5 htv
        rcases hn : nearB tv with _ | _
        · rw [hn] at HNR
          have HF := Lib.hid (show t = false by rw [HT0.out, vld_3 (all_bad HTV.out hn)])
          clear hn
          go_wp2_with fail
          refine (HNR.out _).mono ?_
          rintro e w1 ⟨rfl, rfl⟩
          go_wp2
          go_ret
          exact ⟨ret_b HF.out.symm, HB.out⟩
        · rw [hn] at HNR
          have HN := Lib.hid ((all_take_succ HTV.out HA.out).trans hn)
          clear hn
          go_wp2_with fail
          refine (HNR.out _).mono ?_
          rintro e w1 ⟨rfl, rfl⟩
          go_wp2
          go_round
          case rel => exact ⟨k + 1, by omega, by go_num, HN.out⟩
          case measure => simp [intOf]; omega
      · obtain rfl : k = d.st.length := by omega
        have HOK := Lib.hid (show okD d from ⟨HO.out, HL.out, by have := HA.out; rwa [List.take_length] at this, by omega⟩)
        have HV := Lib.hid (HT0.out.trans (vld_W HOK.out HFB.out))
        have HP := Lib.hid (HPL.out HOK.out)
        go_wp2_with fail
        refine HP.out.mono ?_
        rintro e w1 ⟨vl, rfl, hO, hb1⟩
        have HBB := Lib.hid (bt_ HB.out hb1)
        have HR := Lib.hid hO.ri
        obtain ⟨L, hL⟩ : ∃ L, L = (plcW d).length := ⟨_, rfl⟩
        obtain ⟨Al, cl, rfl⟩ := hO.slice hL.symm
        have HLL := Lib.hid hL
        have hml := hO.2.2
        rw [← hL] at hml
        clear hO hb1 hL
        go_wp2_with fail
        go_loop [5] (fun x => ∃ k : Nat, k ≤ L ∧ x = .int .i64 (k : Int) ∧ ((plcW d).take k).all placeB = true) (fun x => L - (intOf x).toNat)
        case atStart => exact ⟨0, Nat.zero_le _, rfl, rfl⟩
        case round =>
          obtain ⟨k, hk, rfl, ha⟩ := hrel
          have HA2 := Lib.hid ha
          clear ha
          by_cases hlt : k < L
          · obtain ⟨b5, o5, c5, y, e5, hy, my⟩ := HR.out.at_ (k := k) (by have := HLL.out; omega)
            rw [← HLL.out] at e5
            obtain ⟨rfl, rfl⟩ : Al = some ⟨b5, o5, none⟩ ∧ cl = c5 := by simpa using e5
            have HY := Lib.hid hy
            clear e5 hy
            by_cases h1 : y < 0
            · have HF := Lib.hid (show t = false by rw [HV.out]; exact all_bad HY.out (by unfold placeB; rw [decide_eq_false (show ¬ 0 ≤ y by omega)]; rfl))
              go_wp2
              go_ret
              exact ⟨ret_b HF.out.symm, HBB.out⟩
            · by_cases h2 : 2147483648 < y
              · have HF := Lib.hid (show t = false by rw [HV.out]; exact all_bad HY.out (by unfold placeB; rw [decide_eq_false (show ¬ y ≤ 2147483648 by omega)]; simp))
                go_wp2
                go_ret
                exact ⟨ret_b HF.out.symm, HBB.out⟩
              · have HN := Lib.hid ((all_take_succ HY.out HA2.out).trans (show placeB y = true by unfold placeB; rw [decide_eq_true (show 0 ≤ y by omega), decide_eq_true (show y ≤ 2147483648 by omega)]; rfl))
                go_wp2
                go_round
                case rel => exact ⟨k + 1, by omega, by go_num, HN.out⟩
                case measure => simp [intOf]; omega
          · obtain rfl : k = L := by omega
            have HF := Lib.hid (show t = true by rw [HV.out]; have := HA2.out; rwa [HLL.out, List.take_length] at this)
            go_wp2
            go_ret
            exact ⟨ret_b HF.out.symm, HBB.out⟩
end Go.Proofs.Ytkgdnlknnjiglaa

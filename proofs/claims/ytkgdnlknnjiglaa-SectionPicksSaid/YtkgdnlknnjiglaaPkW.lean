/- The walk of the law SectionPicks. -/
import Derived.Test.YtkgdnlknnjiglaaPkF
import Derived.Test.YtkgdnlknnjiglaaPkE
import Derived.Test.YtkgdnlknnjiglaaPkA
import Derived.Test.YtkgdnlknnjiglaaSecK
import Derived.Deep.RegionHeld3
namespace Go.Proofs.Ytkgdnlknnjiglaa
open Go.RowKit

theorem pkL_len {d : DS} {Ls : List (List Int)} : (pkL d Ls).length ≤ 4000 := by
  unfold pkL
  split
  · rename_i h
    simp only [Bool.and_eq_true] at h
    obtain ⟨⟨h1, _⟩, h3⟩ := h
    unfold pkOk at h1
    rw [Bool.and_eq_true, decide_eq_true_eq] at h1
    rw [pkK_len (by have := (vld_ok h1.1).2.1; omega) _ (Nat.le_refl _)]
    unfold pkFit at h3
    have := List.all_eq_true.1 h3 Ls.length (List.mem_range.2 (by omega))
    simpa using this
  · simp
theorem tw_double (l : List Int) : twB (l ++ l) = decide (0 < l.length) := by
  rw [Bool.eq_iff_iff, decide_eq_true_eq]
  constructor
  · intro h
    unfold twB at h
    obtain ⟨k, hk, _⟩ := List.any_eq_true.1 h
    have := List.mem_range.1 hk
    rw [List.length_append] at this
    omega
  · intro h
    refine any_t (k := l.length) (by rw [List.length_append]; omega) ?_
    rw [decide_eq_true_eq, List.getD_eq_getElem?_getD, List.getElem?_append_right (Nat.le_refl _), Nat.sub_self, List.getElem?_eq_getElem h]
    unfold upS
    rw [List.take_left, List.mem_reverse]
    exact List.getElem_mem h
set_option maxRecDepth 100000 in
set_option maxHeartbeats 8000000 in
theorem sectionPicks_walk (w : World) (v0 : Value) (d : DS) (h0 : RD w v0 d) (v1 : Value) (Ls : List (List Int)) (h1 : RL w v1 Ls) :
    Calls Try.prog 7 #[v0, v1] w fun e w' => e = .returned (.bool true) ∧ Below w.heap.size w w' := by
  have hr := h0
  obtain ⟨ve, vt, rfl, he, ht, hfb⟩ := h0
  obtain ⟨E0, ce0, rfl⟩ := he.slice
  obtain ⟨S0, cs0, rfl⟩ := ht.slice
  have hL0 := h1
  obtain ⟨Z, cz, rfl, hmz, -⟩ := h1
  have HB := Lib.hid (box_below w (.cells #[.int .i64 d.b, .slice E0 d.ex.length ce0, .slice S0 d.st.length cs0] 31))
  have HX := Lib.hid (Has.new w [.int .i64 d.b, .slice E0 d.ex.length ce0, .slice S0 d.st.length cs0] 31)
  have HRD := Lib.hid hr; have HRL := Lib.hid hL0
  have HA := Lib.hid Awake_c
  clear hr he ht hfb hL0
  by_cases hlen : Ls.length ≤ 10
  rotate_left
  · have hl2 : (10 : Int) < (Ls.length : Int) := by omega
    go_enter Try.func7, Try.ntmps7
    go_wp2_with fail
    refine (HA.out _).mono ?_
    rintro e w1 ⟨rfl, hb⟩
    have HB1 := Lib.hid (bt_ HB.out hb)
    clear hb
    go_wp2
    go_ret
    exact ⟨rfl, HB1.out⟩
  have hl2 : ¬ (10 : Int) < (Ls.length : Int) := by omega
  go_enter Try.func7, Try.ntmps7
  go_wp2_with fail
  obtain ⟨W0, hW0⟩ : ∃ W0, W0 = w.alloc (.cells #[.int .i64 d.b, .slice E0 d.ex.length ce0, .slice S0 d.st.length cs0] 31) := ⟨_, rfl⟩
  rw [← hW0]
  rw [← hW0] at HB HX
  clear hW0
  go_loop [5] (fun x => ∃ k : Nat, k ≤ Ls.length ∧ x = .int .i64 (k : Int) ∧ ∀ l ∈ Ls.take k, l.length ≤ 6000) (fun x => Ls.length - (intOf x).toNat)
  case atStart => exact ⟨0, Nat.zero_le _, rfl, fun l hl => by simp at hl⟩
  case round =>
    obtain ⟨k, hk, rfl, hsm⟩ := hrel
    have HSM := Lib.hid hsm
    clear hsm
    by_cases hlt : k < Ls.length
    · obtain ⟨b3, o3, c3, l, A', c', e3, hl, hc, hR⟩ := (HRL.out.keep HB.out).at_ hlt
      obtain ⟨rfl, rfl⟩ : Z = some ⟨b3, o3, none⟩ ∧ cz = c3 := by simpa using e3
      have hml := hR.len
      have HLK := Lib.hid hl
      clear e3 hl hR
      by_cases hbig : 6000 < l.length
      · have hb2 : (6000 : Int) < (l.length : Int) := by omega
        go_wp2_with fail
        refine (HA.out _).mono ?_
        rintro e w1 ⟨rfl, hb⟩
        have HB1 := Lib.hid (bt_ HB.out hb)
        clear hb
        go_wp2
        go_ret
        exact ⟨rfl, HB1.out⟩
      · have hb2 : ¬ (6000 : Int) < (l.length : Int) := by omega
        have HN := Lib.hid (show ∀ m ∈ Ls.take (k + 1), m.length ≤ 6000 from fun m hm => by
          rw [List.take_add_one, HLK.out] at hm
          rcases List.mem_append.1 hm with hm | hm
          · exact HSM.out m hm
          · simp at hm; rw [hm]; omega)
        go_wp2
        go_round
        case rel => exact ⟨k + 1, by omega, by go_num, HN.out⟩
        case measure => simp [intOf]; omega
    · obtain rfl : k = Ls.length := by omega
      have hsm : ∀ l ∈ Ls, l.length ≤ 6000 := by have := HSM.out; rwa [List.take_length] at this
      have HP1 := Lib.hid (fun (wx : World) (hb : Below w.heap.size w wx) => Pick_c _ _ d Ls wx (HRD.out.keep hb) (HRL.out.keep hb) hsm)
      have HP2 := Lib.hid (fun (wx : World) (hb : Below w.heap.size w wx) => rPick_c _ _ d Ls wx (HRD.out.keep hb) (HRL.out.keep hb) hsm)
      obtain ⟨P, hP⟩ : ∃ P, P = pkL d Ls := ⟨_, rfl⟩
      obtain ⟨er, hE⟩ : ∃ x, x = pkE d Ls := ⟨_, rfl⟩
      rw [← hP, ← hE] at HP1 HP2
      have hp4 : P.length ≤ 4000 := by rw [hP]; exact pkL_len
      obtain ⟨y1, y2, y3⟩ := HX.out.c3
      clear hsm hP hE
      go_wp2_with fail
      refine (HP1.out _ HB.out).mono ?_
      rintro e w1 ⟨vl, rfl, hr1, hb⟩
      have HB1 := Lib.hid (bt_ HB.out hb)
      obtain ⟨y1, y2, y3⟩ := (HX.out.keep hb).c3
      have HX1 := Lib.hid (HX.out.keep hb)
      have HR1 := Lib.hid hr1
      obtain ⟨A1, c1, rfl⟩ := hr1.slice
      clear hr1 hb
      go_wp2_with fail
      refine (HP2.out _ HB1.out).mono ?_
      rintro e w2 ⟨vm, rfl, hr2, hb⟩
      have HB2 := Lib.hid (bt_ HB1.out hb)
      have HR1 := Lib.hid (HR1.out.keep hb)
      have HR2 := Lib.hid hr2
      obtain ⟨A2, c2, rfl⟩ := hr2.slice
      clear hr2 hb y1 y2 y3
      go_wp2_with fail
      have HSI := Lib.hid (sameInts_c _ _ P P w2 HR1.out HR2.out)
      rw [decide_eq_true (rfl : P = P)] at HSI
      refine HSI.out.mono ?_
      rintro e w3 ⟨rfl, nn, rfl⟩
      have HB3 := Lib.hid (below_dn HB2.out nn)
      have HR3 := Lib.hid (HR1.out.drewN nn)
      obtain ⟨tb, htb⟩ : ∃ x, x = twB P := ⟨_, rfl⟩
      have HTB := Lib.hid htb
      have HT1 := Lib.hid (fun (wx : World) (hr : RI wx (.slice A1 P.length c1) P) => Twice_c _ P wx hr (by omega))
      have HT2 := Lib.hid (fun (wx : World) (hr : RI wx (.slice A1 P.length c1) P) => rTwice_c _ P wx hr (by omega))
      rw [← htb] at HT1 HT2
      clear htb
      have hee : (er == er) = true := by simp
      cases tb
      all_goals
        go_wp2_with fail
        refine (HT1.out _ HR3.out).mono ?_
        rintro e w4 ⟨rfl, hb⟩
        have HB4 := Lib.hid (bt_ HB3.out hb)
        have HR4 := Lib.hid (HR3.out.keep hb)
        clear hb
        go_wp2_with fail
        refine (HT2.out _ HR4.out).mono ?_
        rintro e w5 ⟨rfl, hb⟩
        have HB5 := Lib.hid (bt_ HB4.out hb)
        have HR5 := Lib.hid (HR4.out.keep hb)
        clear hb
        go_wp2_with (at_builtin; refine wpList_app rfl _ _ rfl w5.heap.size _ _ [] P rfl (OW.empty w5 _ (Nat.le_refl _)) rfl (HR5.out.keep (box_below _ _)) (by simp; omega) (by simp) ?_)
        intro va w6 a1 a2 a3
        have HB6 := Lib.hid (show Below w5.heap.size w5 w6 from (box_below w5 (.cells #[] 3)).grown a2 (by simp) (fun k hk => by
          have : w5.heap.size = k := by simpa [Value.ownBlock] using hk
          omega))
        have HO6 := Lib.hid (show OW w6 w5.heap.size va P from a1)
        have HR6 := Lib.hid (HR5.out.keep HB6.out)
        clear a1 a2 a3
        go_wp2_with (at_builtin; refine wpList_app rfl _ _ rfl w5.heap.size _ _ P P rfl HO6.out rfl HR6.out (by omega) HB6.out.size ?_)
        intro vb w7 a1 a2 a3
        have HB7 := Lib.hid (show Below w.heap.size w w7 from bt_ HB5.out (HB6.out.grown a2 HB6.out.size (fun k hk => (HO6.out.lt k hk).1)))
        have HR7 := Lib.hid a1.ri
        have HT7 := Lib.hid (Twice_c vb (P ++ P) w7 a1.ri (by rw [List.length_append]; omega))
        rw [tw_double] at HT7
        clear a1 a2 a3
        by_cases h0 : 0 < P.length
        · rw [decide_eq_true h0] at HT7
          have h1 : (0 : Int) < (P.length : Int) := by omega
          go_wp2_with fail
          refine HT7.out.mono ?_
          rintro e w8 ⟨rfl, hb⟩
          have HB8 := Lib.hid (bt_ HB7.out hb)
          clear hb
          go_wp2_with fail
          refine (HA.out _).mono ?_
          rintro e w9 ⟨rfl, hb⟩
          have HB9 := Lib.hid (bt_ HB8.out hb)
          clear hb
          go_wp2
          go_ret
          exact ⟨rfl, HB9.out⟩
        · rw [decide_eq_false h0] at HT7
          have h1 : ¬ (0 : Int) < (P.length : Int) := by omega
          go_wp2_with fail
          refine HT7.out.mono ?_
          rintro e w8 ⟨rfl, hb⟩
          have HB8 := Lib.hid (bt_ HB7.out hb)
          clear hb
          go_wp2_with fail
          refine (HA.out _).mono ?_
          rintro e w9 ⟨rfl, hb⟩
          have HB9 := Lib.hid (bt_ HB8.out hb)
          clear hb
          go_wp2
          go_ret
          exact ⟨rfl, HB9.out⟩
end Go.Proofs.Ytkgdnlknnjiglaa

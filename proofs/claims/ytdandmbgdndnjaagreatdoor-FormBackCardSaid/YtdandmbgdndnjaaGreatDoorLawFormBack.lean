/-
  PROVED: the law FormBack (both source forms read back what was written in them) returns true for every list of statements. Conditions: the library's tables hold what the program's text lays (tied by the card).
-/
import Derived.Test.YtdandmbgdndnjaaGreatDoorLawD
import Derived.Test.YtdandmbgdndnjaaGreatDoorLawE
import Derived.Test.YtdandmbgdndnjaaGreatDoorWrtJ
import Derived.Test.YtdandmbgdndnjaaGreatDoorCards
import Derived.Test.YtdandmbgdndnjaaGreatDoorTie
import Derived.SevenTiedAt
import Derived.Shelf.Vars
namespace Go.Proofs.YtdandmbgdndnjaaGreatDoor
open Go Go.ChangeShapes Go.WideShapes Go.ChangeAt Go.WideMaps Go.WideElems Go.RowKit Go.ChangeMaps

theorem MX.lt {w : World} (h : MX w) : 0 < w.heap.size := by
  obtain ⟨m, hm⟩ := h
  exact World.block_lt_of_cell? w _ hm
set_option maxRecDepth 100000 in
set_option maxHeartbeats 4000000 in
theorem formBack_top (v : Value) (l : List Ln) (w : World) (hm : MX w) (hT : TW w) (h : RL w v l) :
    Calls Tryz.prog 6 #[v] w fun e w' => e = .returned (.bool true) ∧ Below w.heap.size w w' := by
  have HM := Lib.hid hm
  have HT := Lib.hid hT
  have H := Lib.hid h
  have HL := Lib.hid (isLong_c v l w h)
  have HA := Lib.hid (fun wx (hb : Below w.heap.size w wx) => show Calls Tryz.prog 9 #[] wx (fun e w' => e = .returned (.bool true) ∧ Below wx.heap.size wx w') by
    obtain ⟨m, h⟩ := HM.out.keep hb HM.out.lt
    exact Awake_c m wx h)
  obtain ⟨n, hn⟩ : ∃ n : ByteArray, n = ⟨(wrA (vlB l) (l.flatMap nwS)).1.toArray⟩ := ⟨_, rfl⟩
  obtain ⟨en, hen⟩ : ∃ en : Nat, en = (wrA (vlB l) (l.flatMap nwS)).2 := ⟨_, rfl⟩
  obtain ⟨o, ho⟩ : ∃ o : ByteArray, o = ⟨(wrA (vlB l) (l.flatMap owS)).1.toArray⟩ := ⟨_, rfl⟩
  obtain ⟨eo, heo⟩ : ∃ eo : Nat, eo = (wrA (vlB l) (l.flatMap owS)).2 := ⟨_, rfl⟩
  have HN := Lib.hid (show en ≠ 0 ∨ (en = 0 ∧ ∀ wx, Below w.heap.size w wx → Calls Tryz.prog 20 #[.string n] wx (fun e w' => ∃ (v' : Value) (k : Int) (m : List Ln), e = .returned (.tuple #[v', .int .i64 k, .int .i64 0]) ∧ RL w' v' m ∧ l.length = m.length ∧ (∀ (k : Nat) (x y : Ln), l[k]? = some x → m[k]? = some y → x.1 = y.1 ∧ x.2.1 = y.2.1) ∧ Below wx.heap.size wx w')) from by
    rcases wrA_two (vlB l) (l.flatMap nwS) with ⟨m, hm0, e⟩ | ⟨hv, h8, e⟩
    · left; rw [hen, e]; exact hm0
    · right
      refine ⟨by rw [hen, e], fun wx hb => ?_⟩
      obtain ⟨m, hmm⟩ := HM.out.keep hb HM.out.lt
      obtain ⟨sts, h1, h2⟩ := new_back hv h8
      have hl : sts.length = l.length := by have := congrArg List.length h2; simpa using this
      have hl2 : l.length ≤ 200 := by unfold vlB at hv; rw [Bool.and_eq_true, decide_eq_true_eq] at hv; exact hv.1
      rw [hn, e]
      refine (New_c _ m wx hmm).mono ?_
      rw [h1]
      rintro e w' ⟨v', rfl, ho, hB⟩
      obtain ⟨k1, k2⟩ := same_keys hv h2
      exact ⟨v', _, sts.map lnOf, rfl, RL.ofOwn ho (by omega), k1, k2, hB⟩)
  have HO := Lib.hid (show eo ≠ 0 ∨ (eo = 0 ∧ ∀ wx, Below w.heap.size w wx → Calls Tryz.prog 22 #[.string o] wx (fun e w' => ∃ (v' : Value) (k : Int) (m : List Ln), e = .returned (.tuple #[v', .int .i64 k, .int .i64 0]) ∧ RL w' v' m ∧ l.length = m.length ∧ (∀ (k : Nat) (x y : Ln), l[k]? = some x → m[k]? = some y → x.1 = y.1 ∧ x.2.1 = y.2.1) ∧ Below wx.heap.size wx w')) from by
    rcases wrA_two (vlB l) (l.flatMap owS) with ⟨m, hm0, e⟩ | ⟨hv, h8, e⟩
    · left; rw [heo, e]; exact hm0
    · right
      refine ⟨by rw [heo, e], fun wx hb => ?_⟩
      obtain ⟨m, hmm⟩ := HM.out.keep hb HM.out.lt
      obtain ⟨sts, h1, h2⟩ := old_back hv h8
      have hl : sts.length = l.length := by have := congrArg List.length h2; simpa using this
      have hl2 : l.length ≤ 200 := by unfold vlB at hv; rw [Bool.and_eq_true, decide_eq_true_eq] at hv; exact hv.1
      rw [ho, e]
      refine (Old_c _ m wx hmm).mono ?_
      rw [h1]
      rintro e w' ⟨v', rfl, ho, hB⟩
      obtain ⟨k1, k2⟩ := same_keys hv h2
      exact ⟨v', _, sts.map lnOf, rfl, RL.ofOwn ho (by omega), k1, k2, hB⟩)
  have Hn := Lib.hid hn; have Hen := Lib.hid hen; have Ho := Lib.hid ho; have Heo := Lib.hid heo
  clear hm hT h hn hen ho heo
  go_enter Tryz.func6, Tryz.ntmps6
  go_wp2_with fail
  refine HL.out.mono ?_
  rintro e w0 ⟨q, rfl, rfl⟩
  cases q
  rotate_left
  · go_wp2_with fail
    refine (HA.out w (Below.refl _ _)).mono ?_
    rintro e w1 ⟨rfl, hB⟩
    go_wp2
    go_ret
    exact ⟨rfl, hB⟩
  go_wp2_with fail
  refine (WriteNew_c v l w HT.out H.out).mono ?_
  rw [← Hn.out, ← Hen.out]
  rintro e w1 ⟨rfl, hB1⟩
  rcases HN.out with hz | ⟨hz, hN⟩
  · have f1 : ((en : Int) == 0) = false := by simpa using hz
    have f2 : (en == 0) = false := by simpa using hz
    clear hz
    go_wp2_with fail
    refine (WriteOld_c v l w1 (HT.out.keep hB1 HT.out.lt) (H.out.keep hB1)).mono ?_
    rw [← Ho.out, ← Heo.out]
    rintro e w3 ⟨rfl, hB3⟩
    have hB3 := bt_ hB1 hB3
    clear hB1
    rcases HO.out with hy | ⟨hy, hO⟩
    · have g1 : ((eo : Int) == 0) = false := by simpa using hy
      have g2 : (eo == 0) = false := by simpa using hy
      clear hy
      go_wp2_with fail
      refine (HA.out w3 hB3).mono ?_
      rintro e w7 ⟨rfl, hB7⟩
      go_wp2
      go_ret
      exact ⟨rfl, bt_ hB3 hB7⟩
    · subst hy
      have HO2 := Lib.hid hO
      clear hO
      go_wp2_with fail
      refine (HO2.out w3 hB3).mono ?_
      rintro e w4 ⟨v', k, m, rfl, hR, hl, hk, hB4⟩
      have hB4 := bt_ hB3 hB4
      have HS := Lib.hid (SameLines_c v v' l m w4 (H.out.keep hB4) hR hl hk)
      clear hR hl hk hB3
      go_wp2_with fail
      refine HS.out.mono ?_
      rintro e w5 ⟨rfl, n5, rfl⟩
      have hB5 := below_dn hB4 n5
      clear hB4
      go_wp2_with fail
      refine (HA.out _ hB5).mono ?_
      rintro e w7 ⟨rfl, hB7⟩
      go_wp2
      go_ret
      exact ⟨rfl, bt_ hB5 hB7⟩
  · subst hz
    have HN2 := Lib.hid hN
    clear hN
    go_wp2_with fail
    refine (HN2.out w1 hB1).mono ?_
    rintro e w2 ⟨v', k, m, rfl, hR, hl, hk, hB2⟩
    have hB2 := bt_ hB1 hB2
    have HS := Lib.hid (SameLines_c v v' l m w2 (H.out.keep hB2) hR hl hk)
    clear hR hl hk hB1
    go_wp2_with fail
    refine HS.out.mono ?_
    rintro e w5 ⟨rfl, n5, rfl⟩
    have hB5 := below_dn hB2 n5
    clear hB2
    go_wp2_with fail
    refine (WriteOld_c v l _ (HT.out.keep hB5 HT.out.lt) (H.out.keep hB5)).mono ?_
    rw [← Ho.out, ← Heo.out]
    rintro e w3 ⟨rfl, hB3⟩
    have hB3 := bt_ hB5 hB3
    clear hB5
    rcases HO.out with hy | ⟨hy, hO⟩
    · have g1 : ((eo : Int) == 0) = false := by simpa using hy
      have g2 : (eo == 0) = false := by simpa using hy
      clear hy
      go_wp2_with fail
      refine (HA.out w3 hB3).mono ?_
      rintro e w7 ⟨rfl, hB7⟩
      go_wp2
      go_ret
      exact ⟨rfl, bt_ hB3 hB7⟩
    · subst hy
      have HO2 := Lib.hid hO
      clear hO
      go_wp2_with fail
      refine (HO2.out w3 hB3).mono ?_
      rintro e w4 ⟨v', k, m, rfl, hR, hl, hk, hB4⟩
      have hB4 := bt_ hB3 hB4
      have HS := Lib.hid (SameLines_c v v' l m w4 (H.out.keep hB4) hR hl hk)
      clear hR hl hk hB3
      go_wp2_with fail
      refine HS.out.mono ?_
      rintro e w5 ⟨rfl, n5, rfl⟩
      have hB5 := below_dn hB4 n5
      clear hB4
      go_wp2_with fail
      refine (HA.out _ hB5).mono ?_
      rintro e w7 ⟨rfl, hB7⟩
      go_wp2
      go_ret
      exact ⟨rfl, bt_ hB5 hB7⟩


set_option maxRecDepth 100000 in
theorem formBack_lifted (os : Os) (started : os.Started) (H : Type) (enc : TypeId × Value → H) :
    ReturnsInHanded {} Tryz.checked os 6 .any (fun w args => (Rows.formBackSpec.pre enc Tryz.prog Tryz.f6 [] false w args ∧ laidMetH Tryz.prog laidL w) ∧ sizedMet enc Tryz.prog Tryz.f6 (OpenSpec.ofChange Rows.formBackSpec) false w args)
      (Rows.formBackSpec.post enc Tryz.prog Tryz.f6 false true false false) := by
  refine returnsInHanded_of_calls (C := Tryz.checked) own started (by kernel_rfl)
    (ChangeSpec.witness_shaped (enc := enc) (C := Tryz.checked) (os := os) (X := fun w _ => laidMetH Tryz.prog laidL w) false (World.laidAll Tryz.prog os laidL) #[.slice none 0 0] 8 (World.laidAll_os _ _ _) (World.shaped_of_ZipB (by kernel_rfl) (by kernel_rfl)) (by kernel_rfl) (by kernel_rfl) (by kernel_rfl) (door_met os _)) ?_
  intro w tape i _ hsh _ hok hpre _
  obtain ⟨_, _, _, fn', hfn', _, _, _, _, hval0⟩ := hok
  obtain rfl : fn' = Tryz.f6 := Option.some.inj (hfn'.symm.trans Tryz.func6)
  obtain ⟨⟨⟨ds, gs, before, hW0, _⟩, hL0⟩, _⟩ := hpre
  have hW := DataW.Whole.of_heap (w' := w.forCall tape i) (by rfl) hW0
  have hL : laidMetH Tryz.prog laidL (w.forCall tape i) := hL0.of_heap (by rfl)
  have hmx : MX (w.forCall tape i) := cell_of_shapedOpen_int (P := Tryz.prog) (g := 0) (t := 3) (zero := #[.int .i64 0]) hsh (of_decide_eq_true (by kernel_rfl)) (by kernel_rfl) rfl (by kernel_rfl) (by kernel_rfl) Tryz.underlying3
  suffices key : Calls Tryz.prog 6 i.args (w.forCall tape i) fun e W' => ∃ v, e = .returned v ∧ Rows.formBackSpec.post enc Tryz.prog Tryz.f6 false true false false (w.forCall tape i) i.args v W' by
    exact key.mono fun e W' ⟨v, he, hp⟩ => by subst he; exact ChangeSpec.post_blind hp
  clear hW0 hL0 hsh hfn'
  revert hval0 hW hmx hL
  generalize w.forCall tape i = W
  generalize i.args = args
  generalize w.heap.size = base
  intro hval0 hW hL hmx
  have hval : ∀ (j : Nat) t v, Tryz.f6.params[j]? = some t → args[j]? = some v → Value.okWide Tryz.prog W .any base t v := hval0
  have hW' := hW
  obtain ⟨p, q, hA0, hV, rfl, hfz, hnd⟩ := hW
  have hA : DataW.TrodAll enc Tryz.prog W 0 (fun _ => true) true Tryz.f6.params.toList args.toList ds p := hA0
  rw [Tryz.params6] at hA hval
  obtain ⟨v0, vs0, d0, ds0, p0, q0, hargs, rfl, rfl, h0, r0⟩ := trodAll_cons hA
  obtain ⟨rfl, rfl, rfl⟩ := trodAll_nil r0
  obtain rfl : args = #[v0] := by cases args; simp_all
  obtain ⟨rfl, rfl⟩ := trodVars_none hV
  obtain ⟨l0, hr0⟩ := open_lns (hval 0 22 v0 rfl rfl) h0
  have htw := tw_of_laid hL
  clear hA0 hval0
  simp only [List.append_nil] at hW'
  have hlt : ∀ x ∈ p0, x.block < W.heap.size := by
    intro x hx; exact hW'.lt x hx
  refine (formBack_top _ l0 W hmx htw hr0).mono fun e W' ⟨he, hb⟩ => ?_
  subst he
  exact ⟨_, rfl, post_mem hW' (fun _ _ _ => (trodAll_cons_mk (shut_bool Tryz.underlying4 _) trodAll_mk0)) (fun sp hsp => trodAll_mk1 (WideElems.Trod_stays (by kernel_rfl) (by kernel_rfl) (of_decide_eq_true (by kernel_rfl)) h0 (fun x hx => hb.same (hlt x (by simp [hx]))) (fun x hx => hsp x (by simp [hx])))) (fun _ => rfl) hb (ok_one (by kernel_rfl) rfl (okWide_bool_mk Tryz.underlying4 _))⟩

theorem formBack_holds : Rows.FormBackSaid :=
  OpenClaim.holds_of_wide 6 Tryz.f6 rfl rfl rfl rfl rfl rfl rfl ⟨rfl, rfl, rfl, rfl, rfl⟩ rfl rfl rfl rfl rfl (by kernel_rfl) Tryz.func6 (by kernel_rfl)
    (of_decide_eq_true (by kernel_rfl)) (by unfold Func.isWrapper; first | (rw [if_pos (by decide +kernel)]; kernel_rfl) | (rw [if_neg (by decide +kernel)]; exact ⟨rfl, rfl⟩))
    (fun os started H enc _ => formBack_lifted os started H enc)

theorem formBack_card : Rows.FormBackCardSaid :=
  Claim7.holds_tied_plain_at .later [] [.data, .data, .data, .data, .sentinel, .sentinel, .pinned] true Rows.formBackCard.stood.harness true
    formBack_holds (fun _ h => by cases h) (by kernel_rfl) (fun _ h => by cases h) formBack_row_tie rfl ⟨rfl, rfl⟩ (by kernel_rfl) rfl
    (fun f fn hf hfn => by
      obtain rfl : f = 6 := Option.some.inj ((show Tryz.prog.funcNamed "quadrat/quadratlaw03.FormBack" = some 6 by kernel_rfl).symm.trans hf) |>.symm
      obtain rfl : fn = Tryz.f6 := (Option.some.inj (Tryz.func6.symm.trans hfn)).symm
      exact ⟨by kernel_rfl, fun j t ht => by
        rw [Tryz.params6] at ht
        have hm : t ∈ [22] := by simpa using Array.mem_of_getElem? ht
        have hall : ([22].all fun u => !Tryz.prog.wantsStandIn u) = true := by kernel_rfl
        exact (show Tryz.prog.wantsStandIn t = false by simpa using List.all_eq_true.1 hall t hm)⟩)
    (by kernel_rfl)
#print axioms formBack_card
end Go.Proofs.YtdandmbgdndnjaaGreatDoor

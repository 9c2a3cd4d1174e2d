/-
  PROVED: the law FormWrites (which statements are right, and what is written of them in both forms) returns true for every list of statements. Conditions: the library's tables hold what the program's text lays (tied by the card).
-/
import Derived.Test.YtdandmbgdndnjaaGreatDoorLawD
import Derived.Test.YtdandmbgdndnjaaGreatDoorLawE
import Derived.Test.YtdandmbgdndnjaaGreatDoorWrtI
import Derived.Test.YtdandmbgdndnjaaGreatDoorSrcAw
import Derived.Test.YtdandmbgdndnjaaGreatDoorCards
import Derived.Test.YtdandmbgdndnjaaGreatDoorTie
import Derived.SevenTiedAt
import Derived.Shelf.Vars
namespace Go.Proofs.YtdandmbgdndnjaaGreatDoor
open Go Go.ChangeShapes Go.WideShapes Go.ChangeAt Go.WideMaps Go.WideElems Go.RowKit Go.ChangeMaps

theorem MX.lt {w : World} (h : MX w) : 0 < w.heap.size := by
  obtain ⟨m, hm⟩ := h
  exact World.block_lt_of_cell? w _ hm
set_option maxRecDepth 100000 in
set_option maxHeartbeats 4000000 in
theorem formWrites_top (v : Value) (l : List Ln) (w : World) (hm : MX w) (hT : TW w) (h : RL w v l) :
    Calls Tryz.prog 3 #[v] w fun e w' => e = .returned (.bool true) ∧ Below w.heap.size w w' := by
  have HM := Lib.hid hm
  have HT := Lib.hid hT
  have H := Lib.hid h
  have HL := Lib.hid (isLong_c v l w h)
  have HA := Lib.hid (fun wx (hb : Below w.heap.size w wx) => show Calls Tryz.prog 9 #[] wx (fun e w' => e = .returned (.bool true) ∧ Below wx.heap.size wx w') by
    obtain ⟨m, h⟩ := HM.out.keep hb HM.out.lt
    exact Awake_c m wx h)
  obtain ⟨n, hn⟩ : ∃ n : ByteArray, n = ⟨(wrA (vlB l) (l.flatMap nwS)).1.toArray⟩ := ⟨_, rfl⟩
  obtain ⟨en, hen⟩ : ∃ en : Nat, en = (wrA (vlB l) (l.flatMap nwS)).2 := ⟨_, rfl⟩
  obtain ⟨o, ho⟩ : ∃ o : ByteArray, o = ⟨(wrA (vlB l) (l.flatMap owS)).1.toArray⟩ := ⟨_, rfl⟩
  obtain ⟨eo, heo⟩ : ∃ eo : Nat, eo = (wrA (vlB l) (l.flatMap owS)).2 := ⟨_, rfl⟩
  have Hn := Lib.hid hn; have Hen := Lib.hid hen; have Ho := Lib.hid ho; have Heo := Lib.hid heo
  obtain ⟨b, hb⟩ : ∃ b : Bool, b = vlB l := ⟨_, rfl⟩
  have Hb := Lib.hid hb
  have gb : (b == b) = true := by simp
  clear hm hT h hn hen ho heo hb
  go_enter Tryz.func3, Tryz.ntmps3
  go_wp2_with fail
  refine HL.out.mono ?_
  rintro e w0 ⟨q, rfl, rfl⟩
  cases q
  rotate_left
  · go_wp2_with fail
    refine (HA.out w (Below.refl _ _)).mono ?_
    rintro e w1 ⟨rfl, hB⟩
    go_wp2
    go_ret
    exact ⟨rfl, hB⟩
  go_wp2_with fail
  refine (WriteNew_c v l w HT.out H.out).mono ?_
  rw [← Hn.out, ← Hen.out]
  rintro e w1 ⟨rfl, hB1⟩
  go_wp2_with fail
  refine (rWriteNew_c v l w1 (H.out.keep hB1)).mono ?_
  rw [← Hn.out, ← Hen.out]
  rintro e w2 ⟨rfl, hB2⟩
  have hB2 := bt_ hB1 hB2
  clear hB1
  go_wp2_with fail
  refine (WriteOld_c v l w2 (HT.out.keep hB2 HT.out.lt) (H.out.keep hB2)).mono ?_
  rw [← Ho.out, ← Heo.out]
  rintro e w3 ⟨rfl, hB3⟩
  have hB3 := bt_ hB2 hB3
  clear hB2
  go_wp2_with fail
  refine (rWriteOld_c v l w3 (H.out.keep hB3)).mono ?_
  rw [← Ho.out, ← Heo.out]
  rintro e w4 ⟨rfl, hB4⟩
  have hB4 := bt_ hB3 hB4
  clear hB3
  go_wp2_with fail
  refine (Valid_c v l w4 (H.out.keep hB4)).mono ?_
  rw [← Hb.out]
  rintro e w5 ⟨rfl, hB5⟩
  have hB5 := bt_ hB4 hB5
  clear hB4
  go_wp2_with fail
  refine (rValid_c v l w5 (H.out.keep hB5)).mono ?_
  rw [← Hb.out]
  rintro e w6 ⟨rfl, hB6⟩
  have hB6 := bt_ hB5 hB6
  clear hB5
  go_wp2_with fail
  refine (HA.out w6 hB6).mono ?_
  rintro e w7 ⟨rfl, hB7⟩
  go_wp2
  go_ret
  exact ⟨rfl, bt_ hB6 hB7⟩

set_option maxRecDepth 100000 in
theorem formWrites_lifted (os : Os) (started : os.Started) (H : Type) (enc : TypeId × Value → H) :
    ReturnsInHanded {} Tryz.checked os 3 .any (fun w args => (Rows.formWritesSpec.pre enc Tryz.prog Tryz.f3 [] false w args ∧ laidMetH Tryz.prog laidL w) ∧ sizedMet enc Tryz.prog Tryz.f3 (OpenSpec.ofChange Rows.formWritesSpec) false w args)
      (Rows.formWritesSpec.post enc Tryz.prog Tryz.f3 false true false false) := by
  refine returnsInHanded_of_calls (C := Tryz.checked) own started (by kernel_rfl)
    (ChangeSpec.witness_shaped (enc := enc) (C := Tryz.checked) (os := os) (X := fun w _ => laidMetH Tryz.prog laidL w) false (World.laidAll Tryz.prog os laidL) #[.slice none 0 0] 8 (World.laidAll_os _ _ _) (World.shaped_of_ZipB (by kernel_rfl) (by kernel_rfl)) (by kernel_rfl) (by kernel_rfl) (by kernel_rfl) (door_met os _)) ?_
  intro w tape i _ hsh _ hok hpre _
  obtain ⟨_, _, _, fn', hfn', _, _, _, _, hval0⟩ := hok
  obtain rfl : fn' = Tryz.f3 := Option.some.inj (hfn'.symm.trans Tryz.func3)
  obtain ⟨⟨⟨ds, gs, before, hW0, _⟩, hL0⟩, _⟩ := hpre
  have hW := DataW.Whole.of_heap (w' := w.forCall tape i) (by rfl) hW0
  have hL : laidMetH Tryz.prog laidL (w.forCall tape i) := hL0.of_heap (by rfl)
  have hmx : MX (w.forCall tape i) := cell_of_shapedOpen_int (P := Tryz.prog) (g := 0) (t := 3) (zero := #[.int .i64 0]) hsh (of_decide_eq_true (by kernel_rfl)) (by kernel_rfl) rfl (by kernel_rfl) (by kernel_rfl) Tryz.underlying3
  suffices key : Calls Tryz.prog 3 i.args (w.forCall tape i) fun e W' => ∃ v, e = .returned v ∧ Rows.formWritesSpec.post enc Tryz.prog Tryz.f3 false true false false (w.forCall tape i) i.args v W' by
    exact key.mono fun e W' ⟨v, he, hp⟩ => by subst he; exact ChangeSpec.post_blind hp
  clear hW0 hL0 hsh hfn'
  revert hval0 hW hmx hL
  generalize w.forCall tape i = W
  generalize i.args = args
  generalize w.heap.size = base
  intro hval0 hW hL hmx
  have hval : ∀ (j : Nat) t v, Tryz.f3.params[j]? = some t → args[j]? = some v → Value.okWide Tryz.prog W .any base t v := hval0
  have hW' := hW
  obtain ⟨p, q, hA0, hV, rfl, hfz, hnd⟩ := hW
  have hA : DataW.TrodAll enc Tryz.prog W 0 (fun _ => true) true Tryz.f3.params.toList args.toList ds p := hA0
  rw [Tryz.params3] at hA hval
  obtain ⟨v0, vs0, d0, ds0, p0, q0, hargs, rfl, rfl, h0, r0⟩ := trodAll_cons hA
  obtain ⟨rfl, rfl, rfl⟩ := trodAll_nil r0
  obtain rfl : args = #[v0] := by cases args; simp_all
  obtain ⟨rfl, rfl⟩ := trodVars_none hV
  obtain ⟨l0, hr0⟩ := open_lns (hval 0 22 v0 rfl rfl) h0
  have htw := tw_of_laid hL
  clear hA0 hval0
  simp only [List.append_nil] at hW'
  have hlt : ∀ x ∈ p0, x.block < W.heap.size := by
    intro x hx; exact hW'.lt x hx
  refine (formWrites_top _ l0 W hmx htw hr0).mono fun e W' ⟨he, hb⟩ => ?_
  subst he
  exact ⟨_, rfl, post_mem hW' (fun _ _ _ => (trodAll_cons_mk (shut_bool Tryz.underlying4 _) trodAll_mk0)) (fun sp hsp => trodAll_mk1 (WideElems.Trod_stays (by kernel_rfl) (by kernel_rfl) (of_decide_eq_true (by kernel_rfl)) h0 (fun x hx => hb.same (hlt x (by simp [hx]))) (fun x hx => hsp x (by simp [hx])))) (fun _ => rfl) hb (ok_one (by kernel_rfl) rfl (okWide_bool_mk Tryz.underlying4 _))⟩

theorem formWrites_holds : Rows.FormWritesSaid :=
  OpenClaim.holds_of_wide 3 Tryz.f3 rfl rfl rfl rfl rfl rfl rfl ⟨rfl, rfl, rfl, rfl, rfl⟩ rfl rfl rfl rfl rfl (by kernel_rfl) Tryz.func3 (by kernel_rfl)
    (of_decide_eq_true (by kernel_rfl)) (by unfold Func.isWrapper; first | (rw [if_pos (by decide +kernel)]; kernel_rfl) | (rw [if_neg (by decide +kernel)]; exact ⟨rfl, rfl⟩))
    (fun os started H enc _ => formWrites_lifted os started H enc)

theorem formWrites_card : Rows.FormWritesCardSaid :=
  Claim7.holds_tied_plain_at .later [] [.data, .data, .data, .data, .sentinel, .sentinel, .pinned] true Rows.formWritesCard.stood.harness true
    formWrites_holds (fun _ h => by cases h) (by kernel_rfl) (fun _ h => by cases h) formWrites_row_tie rfl ⟨rfl, rfl⟩ (by kernel_rfl) rfl
    (fun f fn hf hfn => by
      obtain rfl : f = 3 := Option.some.inj ((show Tryz.prog.funcNamed "quadrat/quadratlaw03.FormWrites" = some 3 by kernel_rfl).symm.trans hf) |>.symm
      obtain rfl : fn = Tryz.f3 := (Option.some.inj (Tryz.func3.symm.trans hfn)).symm
      exact ⟨by kernel_rfl, fun j t ht => by
        rw [Tryz.params3] at ht
        have hm : t ∈ [22] := by simpa using Array.mem_of_getElem? ht
        have hall : ([22].all fun u => !Tryz.prog.wantsStandIn u) = true := by kernel_rfl
        exact (show Tryz.prog.wantsStandIn t = false by simpa using List.all_eq_true.1 hall t hm)⟩)
    (by kernel_rfl)
#print axioms formWrites_card
end Go.Proofs.YtdandmbgdndnjaaGreatDoor

/-
  PROVED: the law TokenScans (Scan answers as the document's own answer does: the same tokens, the same place, the same error) returns true for every text. Conditions: the tables of words and pairs hold what the program's text lays (tied by the card).
-/
import Derived.Test.YtcafnpfhjiaolaaDoorLawC
import Derived.Test.YtcafnpfhjiaolaaDoorRefJ
import Derived.Test.YtcafnpfhjiaolaaDoorTokW
import Derived.Test.YtcafnpfhjiaolaaDoorTokV
import Derived.Test.YtcafnpfhjiaolaaDoorCards
import Derived.Test.YtcafnpfhjiaolaaDoorTie
import Derived.SevenTiedAt
namespace Go.Proofs.YtcafnpfhjiaolaaDoor
open Go Go.ChangeShapes Go.WideShapes Go.ChangeAt Go.WideMaps Go.WideElems Go.RowKit Go.ChangeMaps

set_option maxRecDepth 100000 in
set_option maxHeartbeats 4000000 in
theorem scans_main (s : ByteArray) (hs : s.size ≤ 300) (w : World) (ht : TB w) :
    Calls Tryd.prog 3 #[.string s] w fun e w' => e = .returned (.bool true) ∧ Below w.heap.size w w' := by
  have Ht := Lib.hid ht
  clear ht
  rcases hA : scanP s.data.toList with ⟨l, p, e⟩
  have H1 := Lib.hid hA
  clear hA
  go_enter Tryd.func3, Tryd.ntmps3
  go_wp2_with fail
  refine (Scan_c s (by omega) _ Ht.out).mono ?_
  intro ee w1 hp
  obtain ⟨v1, rfl, ho1, hB1⟩ := scan_as H1.out hp
  have hB := hB1
  clear hp
  go_wp2_with fail
  refine (rScan_c s (by omega) _).mono ?_
  intro ee w2 hp
  obtain ⟨v2, rfl, ho2, hB2⟩ := scan_as H1.out hp
  have Ht3 := Lib.hid ((Ht.out.keep hB1).keep hB2)
  have hB := bt_ hB hB2
  have hr1 := Lib.hid (RT.of_own (own_below ho1 hB2))
  have hr2 := Lib.hid (RT.of_own ho2)
  clear hp ho1 ho2 hB1 hB2
  go_wp2_with fail
  refine (Same_c _ _ _ _ _ hr1.out hr2.out).mono ?_
  rintro ee w6 ⟨rfl, nn, rfl⟩
  rw [decide_eq_true (rfl : l = l)]
  go_wp2_with fail
  refine (rSame_c _ _ _ _ _ (hr1.out.drewN nn) (hr2.out.drewN nn)).mono ?_
  rintro ee w6 ⟨rfl, mm, rfl⟩
  rw [decide_eq_true (rfl : l = l)]
  clear hr1 hr2
  go_wp2_with fail
  refine (Awake_c _ (Ht3.out.keep (below_dn (Below.refl _ _) (nn + mm)))).mono ?_
  rintro ee w7 ⟨rfl, hB7⟩
  go_wp2
  go_ret
  exact ⟨rfl, bt_ (below_dn hB (nn + mm)) hB7⟩

set_option maxRecDepth 100000 in
set_option maxHeartbeats 1000000 in
theorem tokenScans_walk (s : ByteArray) (hs : s.size ≤ 9223372036854775807) (w : World) (ht : TB w) :
    Calls Tryd.prog 3 #[.string s] w fun e w' => e = .returned (.bool true) ∧ Below w.heap.size w w' := by
  by_cases hl : 300 < s.size
  · have H := Lib.hid (Awake_c w ht)
    clear ht
    go_enter Tryd.func3, Tryd.ntmps3
    go_wp2_with (go_at_call 8; refine H.out.mono ?_; rintro e w1 ⟨rfl, hB⟩)
    go_ret
    exact ⟨rfl, hB⟩
  · exact scans_main s (by omega) w ht

set_option maxRecDepth 100000 in
theorem tokenScans_lifted (os : Os) (started : os.Started) (H : Type) (enc : TypeId × Value → H) :
    ReturnsInHanded {} Tryd.checked os 3 .any (fun w args => (Rows.tokenScansSpec.pre enc Tryd.prog Tryd.f3 [] false w args ∧ laidMetH Tryd.prog laidL w) ∧ sizedMet enc Tryd.prog Tryd.f3 (OpenSpec.ofChange Rows.tokenScansSpec) false w args)
      (Rows.tokenScansSpec.post enc Tryd.prog Tryd.f3 false true false false) := by
  refine returnsInHanded_of_change_and (C := Tryd.checked) (X := fun w _ => laidMetH Tryd.prog laidL w) (fun _ _ _ hh h => h.of_heap hh) own started (by kernel_rfl) Tryd.func3
    (ChangeSpec.witness_shaped (enc := enc) (C := Tryd.checked) (os := os) (X := fun w _ => laidMetH Tryd.prog laidL w) false (World.laidAll Tryd.prog os laidL) #[.string ⟨#[]⟩] 8 (World.laidAll_os _ _ _) (World.shaped_of_ZipB (by kernel_rfl) (by kernel_rfl)) (by kernel_rfl) (by kernel_rfl) (by kernel_rfl) (door_met os _)) ?_
  intro W base args ds gs before hval0 hW _ _ hL _
  have hval : ∀ (j : Nat) t v, Tryd.f3.params[j]? = some t → args[j]? = some v → Value.okWide Tryd.prog W .any base t v := hval0
  have hW' := hW
  obtain ⟨p, q, hA0, hV, rfl, hfz, hnd⟩ := hW
  have hA : DataW.TrodAll enc Tryd.prog W 0 (fun _ => true) true Tryd.f3.params.toList args.toList ds p := hA0
  rw [Tryd.params3] at hA hval
  obtain ⟨v0, vs0, d0, ds0, p0, q0, hargs, rfl, rfl, h0, r0⟩ := trodAll_cons hA
  obtain ⟨rfl, rfl, rfl⟩ := trodAll_nil r0
  obtain rfl : args = #[v0] := by cases args; simp_all
  obtain ⟨rfl, rfl⟩ := trodVars_none hV
  obtain ⟨a0, rfl, rfl, rfl, w0⟩ := open_string Tryd.underlying9 (hval 0 9 v0 rfl rfl) h0
  have hcn := of_laid hL
  clear hA0 hval0
  simp only [List.append_nil] at hW'
  refine (tokenScans_walk a0 (by unfold maxLen at w0; exact w0) W hcn).mono fun e W' ⟨he, hb⟩ => ?_
  subst he
  exact ⟨_, rfl, post_plain hW' (fun _ _ _ => (trodAll_cons_mk (shut_bool Tryd.underlying4 _) trodAll_mk0)) (fun _ => (trodAll_cons_mk (shut_string Tryd.underlying9 w0) trodAll_mk0)) (fun _ => rfl) hb (ok_one (by kernel_rfl) rfl (okWide_bool_mk Tryd.underlying4 _))⟩

theorem tokenScans_holds : Rows.TokenScansSaid :=
  OpenClaim.holds_of_wide 3 Tryd.f3 rfl rfl rfl rfl rfl rfl rfl ⟨rfl, rfl, rfl, rfl, rfl⟩ rfl rfl rfl rfl rfl (by kernel_rfl) Tryd.func3 (by kernel_rfl)
    (of_decide_eq_true (by kernel_rfl)) (by unfold Func.isWrapper; first | (rw [if_pos (by decide +kernel)]; kernel_rfl) | (rw [if_neg (by decide +kernel)]; exact ⟨rfl, rfl⟩))
    (fun os started H enc _ => tokenScans_lifted os started H enc)

theorem tokenScans_card : Rows.TokenScansCardSaid :=
  Claim7.holds_tied_plain_at .later [] [.data, .data, .data, .pinned, .pinned] true Rows.tokenScansCard.stood.harness false
    tokenScans_holds (fun _ h => by cases h) (by kernel_rfl) (fun _ h => by cases h) tokenScans_row_tie rfl ⟨rfl, rfl⟩ (by kernel_rfl) rfl
    (fun f fn hf hfn => by
      obtain rfl : f = 3 := Option.some.inj ((show Tryd.prog.funcNamed "quadrat/quadratlaw04.TokenScans" = some 3 by kernel_rfl).symm.trans hf) |>.symm
      obtain rfl : fn = Tryd.f3 := (Option.some.inj (Tryd.func3.symm.trans hfn)).symm
      exact ⟨by kernel_rfl, fun j t ht => by
        rw [Tryd.params3] at ht
        have hm : t ∈ [9] := by simpa using Array.mem_of_getElem? ht
        have hall : ([9].all fun u => !Tryd.prog.wantsStandIn u) = true := by kernel_rfl
        exact (show Tryd.prog.wantsStandIn t = false by simpa using List.all_eq_true.1 hall t hm)⟩)
    (by kernel_rfl)
#print axioms tokenScans_card
end Go.Proofs.YtcafnpfhjiaolaaDoor

/-
  PROVED: the law TokenWrites (how tokens are written, and that they are read back) returns true for every list of tokens. Conditions: the tables of words and pairs hold what the program's text lays (tied by the card).
-/
import Derived.Test.YtcafnpfhjiaolaaDoorLawD
import Derived.Test.YtcafnpfhjiaolaaDoorWrtD
import Derived.Test.YtcafnpfhjiaolaaDoorTokW
import Derived.Test.YtcafnpfhjiaolaaDoorTokV
import Derived.Test.YtcafnpfhjiaolaaDoorCards
import Derived.Test.YtcafnpfhjiaolaaDoorTie
import Derived.SevenTiedAt
import Derived.Shelf.Vars
namespace Go.Proofs.YtcafnpfhjiaolaaDoor
open Go Go.ChangeShapes Go.WideShapes Go.ChangeAt Go.WideMaps Go.WideElems Go.RowKit Go.ChangeMaps

theorem wrV_ok {l : List Tok} (h : l.all vP = true) : wrV l = .tuple #[.string ⟨(wrs l).toArray⟩, .int .i64 0] := by unfold wrV; rw [if_pos h]
theorem wrV_no {l : List Tok} (h : l.all vP = false) : wrV l = .tuple #[.string ⟨#[]⟩, .int .i64 2] := by unfold wrV; rw [if_neg (by rw [h]; decide)]
set_option maxRecDepth 100000 in
set_option maxHeartbeats 4000000 in
theorem tokenWrites_walk (v0 : Value) (l0 : List Tok) (w : World) (ht : TB w) (hm : MX w) (h0 : RT w v0 l0) :
    Calls Tryd.prog 4 #[v0] w fun e w' => e = .returned (.bool true) ∧ Below w.heap.size w w' := by
  have H0 := Lib.hid h0
  have HA := Lib.hid (Awake_c w ht)
  have Ht := Lib.hid ht; have Hm := Lib.hid hm
  obtain ⟨A, cap, hv, hmx, hc⟩ := h0
  have Hc := Lib.hid hc
  clear ht hm hc
  by_cases hlen : 100 < l0.length
  · subst hv
    go_enter Tryd.func4, Tryd.ntmps4
    go_wp2_with (go_at_call 8; refine HA.out.mono ?_; rintro e w1 ⟨rfl, hB⟩)
    go_ret
    exact ⟨rfl, hB⟩
  · subst hv
    go_enter Tryd.func4, Tryd.ntmps4
    go_wp2_with fail
    go_loop [3] (fun t => ∃ k : Nat, k ≤ l0.length ∧ t = .int .i64 (k : Int) ∧ ∀ t ∈ l0.take k, t.2.length ≤ 200) (fun t => l0.length - (intOf t).toNat)
    case atStart => exact ⟨0, by omega, rfl, by simp⟩
    case round =>
      obtain ⟨k, hk, rfl, hsz⟩ := hrel
      by_cases hlt : k < l0.length
      · obtain ⟨b1, o1, rfl, hr1⟩ := Hc.out (by omega)
        obtain ⟨ka, x, hga⟩ : ∃ (ka x : ByteArray), l0[k]? = some (ka, x.data.toList) := ⟨(l0[k]'hlt).1, ⟨(l0[k]'hlt).2.toArray⟩, List.getElem?_eq_getElem hlt⟩
        have ca1 := hr1 _ _ (tcell_at hga).2
        rw [← Nat.add_assoc, tok_str] at ca1
        clear hr1
        by_cases hbig : 200 < x.size
        · clear hga hsz
          go_wp2_with (go_at_call 8; refine HA.out.mono ?_; rintro e w1 ⟨rfl, hB⟩)
          go_ret
          exact ⟨rfl, hB⟩
        · have Hst := Lib.hid (show ∀ t ∈ l0.take (k + 1), t.2.length ≤ 200 from fun t ht => by
            rw [List.take_add_one, hga, List.mem_append] at ht
            rcases ht with h | h
            · exact hsz t h
            · simp at h; subst h; simp; omega)
          clear hga hsz
          go_wp2
          go_round
          case rel => exact ⟨k + 1, by omega, by go_num, Hst.out⟩
          case measure => simp [intOf]; omega
      · obtain rfl : k = l0.length := by omega
        rw [List.take_length] at hsz
        have Hsz := Lib.hid hsz
        clear hsz
        rcases hall : l0.all vP with _ | _
        · have Hv := Lib.hid (wrV_no hall)
          clear hall
          go_wp2_with fail
          refine (Write_c _ l0 w Ht.out Hm.out H0.out (by omega) Hsz.out).mono ?_
          rw [Hv.out]
          rintro e w1 ⟨rfl, hB1⟩
          go_wp2_with fail
          refine (rWrite_c _ l0 _ (H0.out.keep hB1) (by omega) Hsz.out).mono ?_
          rw [Hv.out]
          rintro e w2 ⟨rfl, hB2⟩
          have Ht2 := Lib.hid ((Ht.out.keep hB1).keep hB2)
          have hB := bt_ hB1 hB2
          clear hB1 hB2
          go_wp2_with (go_at_call 8; refine (Awake_c _ Ht2.out).mono ?_; rintro e w3 ⟨rfl, hB3⟩)
          go_ret
          exact ⟨rfl, bt_ hB hB3⟩
        · have Hv := Lib.hid (wrV_ok hall)
          have Hsc := Lib.hid (scan_wrs l0 (List.all_eq_true.1 hall))
          have hwl := wrs_len l0 Hsz.out l0.length (Nat.le_refl _)
          rw [List.take_length] at hwl
          obtain ⟨o, ho⟩ : ∃ o : ByteArray, o = ⟨(wrs l0).toArray⟩ := ⟨_, rfl⟩
          have hos : o.size ≤ 1000000 := by
            have : o.size = (wrs l0).length := by rw [ho]; rfl
            omega
          have Hod := Lib.hid (show o.data.toList = wrs l0 by rw [ho])
          have Ho := Lib.hid ho
          clear hall hwl ho
          go_wp2_with fail
          refine (Write_c _ l0 w Ht.out Hm.out H0.out (by omega) Hsz.out).mono ?_
          rw [Hv.out, ← Ho.out]
          rintro e w1 ⟨rfl, hB1⟩
          go_wp2_with fail
          refine (rWrite_c _ l0 _ (H0.out.keep hB1) (by omega) Hsz.out).mono ?_
          rw [Hv.out, ← Ho.out]
          rintro e w2 ⟨rfl, hB2⟩
          have Ht2 := Lib.hid ((Ht.out.keep hB1).keep hB2)
          have H2 := Lib.hid ((H0.out.keep hB1).keep hB2)
          have hB := bt_ hB1 hB2
          clear hB1 hB2
          go_wp2_with fail
          refine (Scan_c o hos _ Ht2.out).mono ?_
          intro ee w3 hp
          rw [Hod.out] at hp
          obtain ⟨v3, rfl, ho3, hB3⟩ := scan_as Hsc.out hp
          have Ht3 := Lib.hid (Ht2.out.keep hB3)
          have H3 := Lib.hid (H2.out.keep hB3)
          have hr3 := Lib.hid (RT.of_own ho3)
          have hB := bt_ hB hB3
          clear hp ho3 hB3
          go_wp2_with fail
          refine (Same_c _ _ _ _ _ hr3.out H3.out).mono ?_
          rintro ee w6 ⟨rfl, nn, rfl⟩
          rw [decide_eq_true (rfl : l0 = l0)]
          go_wp2_with fail
          refine (rSame_c _ _ _ _ _ (hr3.out.drewN nn) (H3.out.drewN nn)).mono ?_
          rintro ee w6 ⟨rfl, mm, rfl⟩
          rw [decide_eq_true (rfl : l0 = l0)]
          go_wp2_with fail
          refine (Awake_c _ (Ht3.out.keep (below_dn (Below.refl _ _) (nn + mm)))).mono ?_
          rintro ee w7 ⟨rfl, hB7⟩
          go_wp2
          go_ret
          exact ⟨rfl, bt_ (below_dn hB (nn + mm)) hB7⟩

set_option maxRecDepth 100000 in
theorem tokenWrites_lifted (os : Os) (started : os.Started) (H : Type) (enc : TypeId × Value → H) :
    ReturnsInHanded {} Tryd.checked os 4 .any (fun w args => (Rows.tokenWritesSpec.pre enc Tryd.prog Tryd.f4 [] false w args ∧ laidMetH Tryd.prog laidL w) ∧ sizedMet enc Tryd.prog Tryd.f4 (OpenSpec.ofChange Rows.tokenWritesSpec) false w args)
      (Rows.tokenWritesSpec.post enc Tryd.prog Tryd.f4 false true false false) := by
  refine returnsInHanded_of_calls (C := Tryd.checked) own started (by kernel_rfl)
    (ChangeSpec.witness_shaped (enc := enc) (C := Tryd.checked) (os := os) (X := fun w _ => laidMetH Tryd.prog laidL w) false (World.laidAll Tryd.prog os laidL) #[.slice none 0 0] 8 (World.laidAll_os _ _ _) (World.shaped_of_ZipB (by kernel_rfl) (by kernel_rfl)) (by kernel_rfl) (by kernel_rfl) (by kernel_rfl) (door_met os _)) ?_
  intro w tape i _ hsh _ hok hpre _
  obtain ⟨_, _, _, fn', hfn', _, _, _, _, hval0⟩ := hok
  obtain rfl : fn' = Tryd.f4 := Option.some.inj (hfn'.symm.trans Tryd.func4)
  obtain ⟨⟨⟨ds, gs, before, hW0, _⟩, hL0⟩, _⟩ := hpre
  have hW := DataW.Whole.of_heap (w' := w.forCall tape i) (by rfl) hW0
  have hL : laidMetH Tryd.prog laidL (w.forCall tape i) := hL0.of_heap (by rfl)
  have hmx : MX (w.forCall tape i) := cell_of_shapedOpen_int (P := Tryd.prog) (g := 2) (t := 3) (zero := #[.int .i64 0]) hsh (of_decide_eq_true (by kernel_rfl)) (by kernel_rfl) rfl (by kernel_rfl) (by kernel_rfl) Tryd.underlying3
  suffices key : Calls Tryd.prog 4 i.args (w.forCall tape i) fun e W' => ∃ v, e = .returned v ∧ Rows.tokenWritesSpec.post enc Tryd.prog Tryd.f4 false true false false (w.forCall tape i) i.args v W' by
    exact key.mono fun e W' ⟨v, he, hp⟩ => by subst he; exact ChangeSpec.post_blind hp
  clear hW0 hL0 hsh hfn'
  revert hval0 hW hL hmx
  generalize w.forCall tape i = W
  generalize i.args = args
  generalize w.heap.size = base
  intro hval0 hW hL hmx
  have hval : ∀ (j : Nat) t v, Tryd.f4.params[j]? = some t → args[j]? = some v → Value.okWide Tryd.prog W .any base t v := hval0
  have hW' := hW
  obtain ⟨p, q, hA0, hV, rfl, hfz, hnd⟩ := hW
  have hA : DataW.TrodAll enc Tryd.prog W 0 (fun _ => true) true Tryd.f4.params.toList args.toList ds p := hA0
  rw [Tryd.params4] at hA hval
  obtain ⟨v0, vs0, d0, ds0, p0, q0, hargs, rfl, rfl, h0, r0⟩ := trodAll_cons hA
  obtain ⟨rfl, rfl, rfl⟩ := trodAll_nil r0
  obtain rfl : args = #[v0] := by cases args; simp_all
  obtain ⟨rfl, rfl⟩ := trodVars_none hV
  obtain ⟨l0, hr0⟩ := open_toks (hval 0 23 v0 rfl rfl) h0
  have hcn := of_laid hL
  clear hA0 hval0
  simp only [List.append_nil] at hW'
  have hlt : ∀ x ∈ p0, x.block < W.heap.size := by
    intro x hx; exact hW'.lt x hx
  refine (tokenWrites_walk _ l0 W hcn hmx hr0).mono fun e W' ⟨he, hb⟩ => ?_
  subst he
  exact ⟨_, rfl, post_mem hW' (fun _ _ _ => (trodAll_cons_mk (shut_bool Tryd.underlying4 _) trodAll_mk0)) (fun sp hsp => trodAll_mk1 (WideElems.Trod_stays (by kernel_rfl) (by kernel_rfl) (of_decide_eq_true (by kernel_rfl)) h0 (fun x hx => hb.same (hlt x (by simp [hx]))) (fun x hx => hsp x (by simp [hx])))) (fun _ => rfl) hb (ok_one (by kernel_rfl) rfl (okWide_bool_mk Tryd.underlying4 _))⟩

theorem tokenWrites_holds : Rows.TokenWritesSaid :=
  OpenClaim.holds_of_wide 4 Tryd.f4 rfl rfl rfl rfl rfl rfl rfl ⟨rfl, rfl, rfl, rfl, rfl⟩ rfl rfl rfl rfl rfl (by kernel_rfl) Tryd.func4 (by kernel_rfl)
    (of_decide_eq_true (by kernel_rfl)) (by unfold Func.isWrapper; first | (rw [if_pos (by decide +kernel)]; kernel_rfl) | (rw [if_neg (by decide +kernel)]; exact ⟨rfl, rfl⟩))
    (fun os started H enc _ => tokenWrites_lifted os started H enc)

theorem tokenWrites_card : Rows.TokenWritesCardSaid :=
  Claim7.holds_tied_plain_at .later [] [.data, .data, .data, .pinned, .pinned] true Rows.tokenWritesCard.stood.harness false
    tokenWrites_holds (fun _ h => by cases h) (by kernel_rfl) (fun _ h => by cases h) tokenWrites_row_tie rfl ⟨rfl, rfl⟩ (by kernel_rfl) rfl
    (fun f fn hf hfn => by
      obtain rfl : f = 4 := Option.some.inj ((show Tryd.prog.funcNamed "quadrat/quadratlaw04.TokenWrites" = some 4 by kernel_rfl).symm.trans hf) |>.symm
      obtain rfl : fn = Tryd.f4 := (Option.some.inj (Tryd.func4.symm.trans hfn)).symm
      exact ⟨by kernel_rfl, fun j t ht => by
        rw [Tryd.params4] at ht
        have hm : t ∈ [23] := by simpa using Array.mem_of_getElem? ht
        have hall : ([23].all fun u => !Tryd.prog.wantsStandIn u) = true := by kernel_rfl
        exact (show Tryd.prog.wantsStandIn t = false by simpa using List.all_eq_true.1 hall t hm)⟩)
    (by kernel_rfl)
#print axioms tokenWrites_card
end Go.Proofs.YtcafnpfhjiaolaaDoor

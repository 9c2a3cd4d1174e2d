/-
  PROVED: the law TokenJoins (two texts with a blank between have the tokens of both, if each has some by itself) returns true for every two texts. Conditions: the tables of words and pairs hold what the program's text lays (tied by the card).
-/
import Derived.Test.YtcafnpfhjiaolaaDoorLawC
import Derived.Test.YtcafnpfhjiaolaaDoorTokQ
import Derived.Test.YtcafnpfhjiaolaaDoorTokW
import Derived.Test.YtcafnpfhjiaolaaDoorTokV
import Derived.Test.YtcafnpfhjiaolaaDoorCards
import Derived.Test.YtcafnpfhjiaolaaDoorTie
import Derived.SevenTiedAt
namespace Go.Proofs.YtcafnpfhjiaolaaDoor
open Go Go.ChangeShapes Go.WideShapes Go.ChangeAt Go.WideMaps Go.WideElems Go.RowKit Go.ChangeMaps

set_option maxRecDepth 100000 in
set_option maxHeartbeats 2000000 in
theorem joins_far (a b : ByteArray) (ha : a.size ≤ 9223372036854775807) (hb : b.size ≤ 9223372036854775807) (h : 200 < a.size ∨ 200 < b.size) (w : World) (ht : TB w) :
    Calls Tryd.prog 7 #[.string a, .string b] w fun e w' => e = .returned (.bool true) ∧ Below w.heap.size w w' := by
  have H := Lib.hid (Awake_c w ht)
  clear ht
  go_enter Tryd.func7, Tryd.ntmps7
  go_wp2_with (go_at_call 8; refine H.out.mono ?_; rintro e w1 ⟨rfl, hB⟩)
  all_goals
    go_ret
    exact ⟨rfl, hB⟩

theorem cat_data (a b : ByteArray) : (a ++ (⟨#[32]⟩ : ByteArray) ++ b).data.toList = a.data.toList ++ 32 :: b.data.toList := by
  simp [ByteArray.data_append]
theorem cat_size (a b : ByteArray) : (a ++ (⟨#[32]⟩ : ByteArray) ++ b).size = a.size + 1 + b.size := by
  have h : (⟨#[32]⟩ : ByteArray).size = 1 := rfl
  simp [ByteArray.size_append, h]

set_option maxRecDepth 100000 in
set_option maxHeartbeats 4000000 in
theorem joins_bad (a b : ByteArray) (ha : a.size ≤ 200) (hb : b.size ≤ 200) (w : World) (ht : TB w) (l m n : List Tok) (pa pb pc eb ec : Nat) (hpa : pa < a.size) (h1 : scanP a.data.toList = (l, pa, 3)) (h2 : scanP b.data.toList = (m, pb, eb)) (h3 : scanP (a ++ (⟨#[32]⟩ : ByteArray) ++ b).data.toList = (n, pc, ec)) :
    Calls Tryd.prog 7 #[.string a, .string b] w fun e w' => e = .returned (.bool true) ∧ Below w.heap.size w w' := by
  have hsz := cat_size a b
  have H1 := Lib.hid h1; have H2 := Lib.hid h2; have H3 := Lib.hid h3; have Ht := Lib.hid ht; have Hsz := Lib.hid hsz
  clear h1 h2 h3 ht hsz
  go_enter Tryd.func7, Tryd.ntmps7
  go_wp2_with fail
  refine (Scan_c a (by omega) _ Ht.out).mono ?_
  intro e w1 hp
  obtain ⟨v1, rfl, ho1, hB1⟩ := scan_as H1.out hp
  have Ht1 := Lib.hid (Ht.out.keep hB1)
  clear hp
  go_wp2_with fail
  refine (Scan_c b (by omega) _ Ht1.out).mono ?_
  intro e w2 hp
  obtain ⟨v2, rfl, ho2, hB2⟩ := scan_as H2.out hp
  have Ht2 := Lib.hid (Ht1.out.keep hB2)
  have hB := bt_ hB1 hB2
  have ho1 := own_below ho1 hB2
  clear hp
  go_wp2_with fail
  refine (Scan_c _ (by have := Hsz.out; omega) _ Ht2.out).mono ?_
  intro e w3 hp
  obtain ⟨v3, rfl, ho3, hB3⟩ := scan_as H3.out hp
  have Ht3 := Lib.hid (Ht2.out.keep hB3)
  have hB := bt_ hB hB3
  have ho1 := own_below ho1 hB3
  have ho2 := own_below ho2 hB3
  have Haw := Lib.hid (Awake_c w3 Ht3.out)
  clear hp hB1 hB2 hB3
  clear ho1 ho2 ho3
  go_wp2_with (go_at_call 8; refine Haw.out.mono ?_; rintro e w4 ⟨rfl, hB4⟩)
  all_goals
    go_ret
    exact ⟨rfl, bt_ hB hB4⟩

set_option maxRecDepth 100000 in
set_option maxHeartbeats 4000000 in
theorem joins_half (a b : ByteArray) (ha : a.size ≤ 200) (hb : b.size ≤ 200) (w : World) (ht : TB w) (l m _n : List Tok) (_pa pb pc _ec : Nat) (hpb : pb ≤ 200) (hwh : ((pc : Int) == (a.size : Int) + 1 + (pb : Int)) = true) (h1 : scanP a.data.toList = (l, 0, 0)) (h2 : scanP b.data.toList = (m, pb, 3)) (h3 : scanP (a ++ (⟨#[32]⟩ : ByteArray) ++ b).data.toList = ([], pc, 3)) :
    Calls Tryd.prog 7 #[.string a, .string b] w fun e w' => e = .returned (.bool true) ∧ Below w.heap.size w w' := by
  have hsz := cat_size a b
  have H1 := Lib.hid h1; have H2 := Lib.hid h2; have H3 := Lib.hid h3; have Ht := Lib.hid ht; have Hsz := Lib.hid hsz
  clear h1 h2 h3 ht hsz
  go_enter Tryd.func7, Tryd.ntmps7
  go_wp2_with fail
  refine (Scan_c a (by omega) _ Ht.out).mono ?_
  intro e w1 hp
  obtain ⟨v1, rfl, ho1, hB1⟩ := scan_as H1.out hp
  have Ht1 := Lib.hid (Ht.out.keep hB1)
  clear hp
  go_wp2_with fail
  refine (Scan_c b (by omega) _ Ht1.out).mono ?_
  intro e w2 hp
  obtain ⟨v2, rfl, ho2, hB2⟩ := scan_as H2.out hp
  have Ht2 := Lib.hid (Ht1.out.keep hB2)
  have hB := bt_ hB1 hB2
  have ho1 := own_below ho1 hB2
  clear hp
  go_wp2_with fail
  refine (Scan_c _ (by have := Hsz.out; omega) _ Ht2.out).mono ?_
  intro e w3 hp
  obtain ⟨v3, rfl, ho3, hB3⟩ := scan_as H3.out hp
  have Ht3 := Lib.hid (Ht2.out.keep hB3)
  have hB := bt_ hB hB3
  have ho1 := own_below ho1 hB3
  have ho2 := own_below ho2 hB3
  have Haw := Lib.hid (Awake_c w3 Ht3.out)
  clear hp hB1 hB2 hB3
  clear ho1 ho2 ho3
  go_wp2_with (go_at_call 8; refine Haw.out.mono ?_; rintro e w4 ⟨rfl, hB4⟩)
  all_goals
    go_ret
    exact ⟨rfl, bt_ hB hB4⟩

set_option maxRecDepth 100000 in
set_option maxHeartbeats 4000000 in
theorem joins_full (a b : ByteArray) (ha : a.size ≤ 200) (hb : b.size ≤ 200) (w : World) (ht : TB w) (l m _n : List Tok) (_pa _pb _pc _ec : Nat) (hl : l.length + m.length ≤ 1000000) (h1 : scanP a.data.toList = (l, 0, 0)) (h2 : scanP b.data.toList = (m, 0, 0)) (h3 : scanP (a ++ (⟨#[32]⟩ : ByteArray) ++ b).data.toList = (l ++ m, 0, 0)) :
    Calls Tryd.prog 7 #[.string a, .string b] w fun e w' => e = .returned (.bool true) ∧ Below w.heap.size w w' := by
  have hsz := cat_size a b
  have H1 := Lib.hid h1; have H2 := Lib.hid h2; have H3 := Lib.hid h3; have Ht := Lib.hid ht; have Hsz := Lib.hid hsz
  clear h1 h2 h3 ht hsz
  go_enter Tryd.func7, Tryd.ntmps7
  go_wp2_with fail
  refine (Scan_c a (by omega) _ Ht.out).mono ?_
  intro e w1 hp
  obtain ⟨v1, rfl, ho1, hB1⟩ := scan_as H1.out hp
  have Ht1 := Lib.hid (Ht.out.keep hB1)
  clear hp
  go_wp2_with fail
  refine (Scan_c b (by omega) _ Ht1.out).mono ?_
  intro e w2 hp
  obtain ⟨v2, rfl, ho2, hB2⟩ := scan_as H2.out hp
  have Ht2 := Lib.hid (Ht1.out.keep hB2)
  have hB := bt_ hB1 hB2
  have ho1 := own_below ho1 hB2
  clear hp
  go_wp2_with fail
  refine (Scan_c _ (by have := Hsz.out; omega) _ Ht2.out).mono ?_
  intro e w3 hp
  obtain ⟨v3, rfl, ho3, hB3⟩ := scan_as H3.out hp
  have Ht3 := Lib.hid (Ht2.out.keep hB3)
  have hB := bt_ hB hB3
  have ho1 := own_below ho1 hB3
  have ho2 := own_below ho2 hB3
  have Haw := Lib.hid (Awake_c w3 Ht3.out)
  clear hp hB1 hB2 hB3
  go_wp2_with (at_builtin; refine wpList_append_toks rfl _ _ rfl w3.heap.size w.heap.size (.slice (some ⟨w3.heap.size, 0, none⟩) 0 0) v1 0 [] l rfl (World.ownsRow_made w3 #[] 0 (Nat.le_refl _) (by decide) (by simp)) rfl (ho1.alloc _) (by omega) (by simp) ?_)
  intro v4 w4 ho4 hg4
  have hB4 : Below w3.heap.size w3 w4 := ((Below.refl w3.heap.size w3).alloc (Nat.le_refl _) _).grown hg4 (by simp) (fun k hk => by simp [Value.ownBlock] at hk; omega)
  have ho2 := own_below ho2 hB4
  clear hg4 ho1
  go_wp2_with (at_builtin; refine wpList_append_toks rfl _ _ rfl w3.heap.size w1.heap.size v4 v2 (0 + l.length) ([] ++ tcells l) m rfl (by simpa using ho4) rfl ho2 (by omega) hB4.size ?_)
  intro v5 w5 ho5 hg5
  have hB5 : Below w3.heap.size w3 w5 := hB4.grown hg5 hB4.size (fun k hk => (ho4.lt k hk).1)
  have hr3 := RT.of_own (own_below ho3 hB5)
  have hr5 : RT w5 v5 (l ++ m) := RT.of_own (b := w3.heap.size) (by rw [tcells_app, List.length_append]; simpa using ho5)
  have Ht5 := Lib.hid (Ht3.out.keep hB5)
  have hB := bt_ hB hB5
  clear hg5 ho2 ho3 ho4 ho5 hB4 hB5 Haw
  go_wp2_with fail
  refine (Same_c _ _ _ _ _ hr3 hr5).mono ?_
  rintro e w6 ⟨rfl, nn, rfl⟩
  rw [decide_eq_true (rfl : l ++ m = l ++ m)]
  clear hr3 hr5
  go_wp2_with fail
  refine (Awake_c _ (Ht5.out.keep (below_dn (Below.refl _ _) nn))).mono ?_
  rintro e w7 ⟨rfl, hB7⟩
  go_wp2
  go_ret
  exact ⟨rfl, bt_ (below_dn hB nn) hB7⟩

theorem tokenJoins_walk (a : ByteArray) (ha : a.size ≤ 9223372036854775807) (b : ByteArray) (hb : b.size ≤ 9223372036854775807) (w : World) (ht : TB w) :
    Calls Tryd.prog 7 #[.string a, .string b] w fun e w' => e = .returned (.bool true) ∧ Below w.heap.size w w' := by
  by_cases h : 200 < a.size ∨ 200 < b.size
  · exact joins_far a b ha hb h w ht
  · have ha' : a.size ≤ 200 := by omega
    have hb' : b.size ≤ 200 := by omega
    have eA := scan_err a.data.toList
    have eB := scan_err b.data.toList
    have iA := scan_within a.data.toList
    have iB := scan_within b.data.toList
    have nA := scan_num a.data.toList
    have nB := scan_num b.data.toList
    rcases hA : scanP a.data.toList with ⟨l, pa, ea⟩
    rcases hB : scanP b.data.toList with ⟨m, pb, eb⟩
    rcases hC : scanP (a ++ (⟨#[32]⟩ : ByteArray) ++ b).data.toList with ⟨n, pc, ec⟩
    rw [hA] at eA iA nA
    rw [hB] at eB iB nB
    simp only [Array.length_toList, ByteArray.size_data] at eA eB iA iB nA nB
    rcases eA with ⟨rfl, rfl⟩ | ⟨rfl, rfl⟩
    · have hj := join_ok _ _ hA hB
      rw [← cat_data] at hj
      rcases eB with ⟨rfl, rfl⟩ | ⟨rfl, rfl⟩
      · rw [if_pos rfl] at hj
        exact joins_full a b ha' hb' w ht l m n 0 0 0 0 (by omega) hA hB hj
      · rw [if_neg (by omega)] at hj
        have := iB (by omega)
        exact joins_half a b ha' hb' w ht l [] n 0 pb (a.size + 1 + pb) 0 (by omega) (by simp) hA hB (by simpa using hj)
    · exact joins_bad a b ha' hb' w ht [] m n pa pb pc eb ec (iA (by omega)) hA hB hC

set_option maxRecDepth 100000 in
theorem tokenJoins_lifted (os : Os) (started : os.Started) (H : Type) (enc : TypeId × Value → H) :
    ReturnsInHanded {} Tryd.checked os 7 .any (fun w args => (Rows.tokenJoinsSpec.pre enc Tryd.prog Tryd.f7 [] false w args ∧ laidMetH Tryd.prog laidL w) ∧ sizedMet enc Tryd.prog Tryd.f7 (OpenSpec.ofChange Rows.tokenJoinsSpec) false w args)
      (Rows.tokenJoinsSpec.post enc Tryd.prog Tryd.f7 false true false false) := by
  refine returnsInHanded_of_change_and (C := Tryd.checked) (X := fun w _ => laidMetH Tryd.prog laidL w) (fun _ _ _ hh h => h.of_heap hh) own started (by kernel_rfl) Tryd.func7
    (ChangeSpec.witness_shaped (enc := enc) (C := Tryd.checked) (os := os) (X := fun w _ => laidMetH Tryd.prog laidL w) false (World.laidAll Tryd.prog os laidL) #[.string ⟨#[]⟩, .string ⟨#[]⟩] 8 (World.laidAll_os _ _ _) (World.shaped_of_ZipB (by kernel_rfl) (by kernel_rfl)) (by kernel_rfl) (by kernel_rfl) (by kernel_rfl) (door_met os _)) ?_
  intro W base args ds gs before hval0 hW _ _ hL _
  have hval : ∀ (j : Nat) t v, Tryd.f7.params[j]? = some t → args[j]? = some v → Value.okWide Tryd.prog W .any base t v := hval0
  have hW' := hW
  obtain ⟨p, q, hA0, hV, rfl, hfz, hnd⟩ := hW
  have hA : DataW.TrodAll enc Tryd.prog W 0 (fun _ => true) true Tryd.f7.params.toList args.toList ds p := hA0
  rw [Tryd.params7] at hA hval
  obtain ⟨v0, vs0, d0, ds0, p0, q0, hargs, rfl, rfl, h0, r0⟩ := trodAll_cons hA
  obtain ⟨v1, vs1, d1, ds1, p1, q1, rfl, rfl, rfl, h1, r1⟩ := trodAll_cons r0
  obtain ⟨rfl, rfl, rfl⟩ := trodAll_nil r1
  obtain rfl : args = #[v0, v1] := by cases args; simp_all
  obtain ⟨rfl, rfl⟩ := trodVars_none hV
  obtain ⟨a0, rfl, rfl, rfl, w0⟩ := open_string Tryd.underlying9 (hval 0 9 v0 rfl rfl) h0
  obtain ⟨a1, rfl, rfl, rfl, w1⟩ := open_string Tryd.underlying9 (hval 1 9 v1 rfl rfl) h1
  have hcn := of_laid hL
  clear hA0 hval0
  simp only [List.append_nil] at hW'
  refine (tokenJoins_walk a0 (by unfold maxLen at w0; exact w0) a1 (by unfold maxLen at w1; exact w1) W hcn).mono fun e W' ⟨he, hb⟩ => ?_
  subst he
  exact ⟨_, rfl, post_plain hW' (fun _ _ _ => (trodAll_cons_mk (shut_bool Tryd.underlying4 _) trodAll_mk0)) (fun _ => (trodAll_cons_mk (shut_string Tryd.underlying9 w0) (trodAll_cons_mk (shut_string Tryd.underlying9 w1) trodAll_mk0))) (fun _ => rfl) hb (ok_one (by kernel_rfl) rfl (okWide_bool_mk Tryd.underlying4 _))⟩

theorem tokenJoins_holds : Rows.TokenJoinsSaid :=
  OpenClaim.holds_of_wide 7 Tryd.f7 rfl rfl rfl rfl rfl rfl rfl ⟨rfl, rfl, rfl, rfl, rfl⟩ rfl rfl rfl rfl rfl (by kernel_rfl) Tryd.func7 (by kernel_rfl)
    (of_decide_eq_true (by kernel_rfl)) (by unfold Func.isWrapper; first | (rw [if_pos (by decide +kernel)]; kernel_rfl) | (rw [if_neg (by decide +kernel)]; exact ⟨rfl, rfl⟩))
    (fun os started H enc _ => tokenJoins_lifted os started H enc)

theorem tokenJoins_card : Rows.TokenJoinsCardSaid :=
  Claim7.holds_tied_plain_at .later [] [.data, .data, .data, .pinned, .pinned] true Rows.tokenJoinsCard.stood.harness false
    tokenJoins_holds (fun _ h => by cases h) (by kernel_rfl) (fun _ h => by cases h) tokenJoins_row_tie rfl ⟨rfl, rfl⟩ (by kernel_rfl) rfl
    (fun f fn hf hfn => by
      obtain rfl : f = 7 := Option.some.inj ((show Tryd.prog.funcNamed "quadrat/quadratlaw04.TokenJoins" = some 7 by kernel_rfl).symm.trans hf) |>.symm
      obtain rfl : fn = Tryd.f7 := (Option.some.inj (Tryd.func7.symm.trans hfn)).symm
      exact ⟨by kernel_rfl, fun j t ht => by
        rw [Tryd.params7] at ht
        have hm : t ∈ [9, 9] := by simpa using Array.mem_of_getElem? ht
        have hall : ([9, 9].all fun u => !Tryd.prog.wantsStandIn u) = true := by kernel_rfl
        exact (show Tryd.prog.wantsStandIn t = false by simpa using List.all_eq_true.1 hall t hm)⟩)
    (by kernel_rfl)
#print axioms tokenJoins_card
end Go.Proofs.YtcafnpfhjiaolaaDoor

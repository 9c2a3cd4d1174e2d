/-
  PROVED: the law TokenCase (outside of quotes capital letters are small ones, and more blanks where one stands change nothing) returns true for every text. Conditions: the tables of words and pairs hold what the program's text lays (tied by the card).
-/
import Derived.Test.YtcafnpfhjiaolaaDoorLawC
import Derived.Test.YtcafnpfhjiaolaaDoorTokQ
import Derived.Test.YtcafnpfhjiaolaaDoorTokW
import Derived.Test.YtcafnpfhjiaolaaDoorTokV
import Derived.Test.YtcafnpfhjiaolaaDoorCards
import Derived.Test.YtcafnpfhjiaolaaDoorTie
import Derived.SevenTiedAt
import Derived.Laws.BytesArg
namespace Go.Proofs.YtcafnpfhjiaolaaDoor
open Go Go.ChangeShapes Go.WideShapes Go.ChangeAt Go.WideMaps Go.WideElems Go.RowKit Go.ChangeMaps

/-- Whether there is a quote among the bytes from a place on. -/
def hasQ (L : List UInt8) : Bool := L.any fun c => quoB c.toNat

set_option maxRecDepth 100000 in
set_option maxHeartbeats 1000000 in
theorem hasQuote_c (s : ByteArray) (hs : s.size ≤ 1000000) (w : World) :
    Calls Tryd.prog 15 #[.string s] w fun e w' => e = .returned (.bool (hasQ s.data.toList)) ∧ w = w' := by
  have hl : s.data.toList.length = s.size := by simp
  go_enter Tryd.func15, Tryd.ntmps15
  go_wp2
  go_loop [3] (fun t => ∃ k : Nat, k ≤ s.size ∧ t = .int .i64 (k : Int) ∧ ∀ j, j < k → quoB (bt s.data.toList j) = false) (fun t => s.size - (intOf t).toNat)
  case atStart => exact ⟨0, by omega, rfl, fun j hj => by omega⟩
  case round =>
    obtain ⟨k, hk, rfl, hn⟩ := hrel
    have Hn := Lib.hid hn; clear hn
    by_cases hlt : k < s.size
    · have hb := bt_get s k hlt
      rcases hq : quoB (bt s.data.toList k) with _ | _
      · have h1 : ((s[k].toNat : Int) == 39) = false := by unfold quoB at hq; rw [hb] at hq; simp at hq ⊢; omega
        have h2 : ((s[k].toNat : Int) == 34) = false := by unfold quoB at hq; rw [hb] at hq; simp at hq ⊢; omega
        have Hst := Lib.hid (show ∀ j, j < k + 1 → quoB (bt s.data.toList j) = false from fun j hj => by
          by_cases e : j = k
          · rw [e]; exact hq
          · exact Hn.out j (by omega))
        clear hq hb hl
        go_wp2
        go_round
        case rel => exact ⟨k + 1, by omega, by go_num, Hst.out⟩
        case measure => simp [intOf]; omega
      · have Hfin := Lib.hid (show hasQ s.data.toList = true by
          unfold hasQ
          rw [List.any_eq_true]
          refine ⟨s.data.toList[k]'(by omega), List.getElem_mem _, ?_⟩
          rw [← bt_some (List.getElem?_eq_getElem (by omega : k < s.data.toList.length))]; exact hq)
        by_cases h39 : s[k].toNat = 39
        · have h1 : ((s[k].toNat : Int) == 39) = true := by simp; omega
          clear hq hb hl h39
          go_wp2
          go_ret
          exact ⟨ret_b Hfin.out.symm, rfl⟩
        · have h1 : ((s[k].toNat : Int) == 39) = false := by simp; omega
          have h2 : ((s[k].toNat : Int) == 34) = true := by unfold quoB at hq; rw [hb] at hq; simp at hq ⊢; omega
          clear hq hb hl h39
          go_wp2
          go_ret
          exact ⟨ret_b Hfin.out.symm, rfl⟩
    · have Hfin := Lib.hid (show hasQ s.data.toList = false by
        unfold hasQ
        rw [List.any_eq_false]
        intro c hc
        obtain ⟨j, hj, rfl⟩ := List.getElem_of_mem hc
        have := Hn.out j (by omega)
        rw [bt_some (List.getElem?_eq_getElem hj)] at this
        simpa using this)
      clear hl
      go_wp2
      go_ret
      exact ⟨ret_b Hfin.out.symm, rfl⟩

theorem conv1 (w : World) (c : Int) : (convert 34 9 (.slice (some ⟨w.heap.size, 0, none⟩) 1 1)).run Tryd.prog (w.alloc (.cells #[.int .u8 c] 5)) = .ok (.string ⟨#[UInt8.ofNat c.toNat]⟩) (w.alloc (.cells #[.int .u8 c] 5)) := by
  have h := run_convert_bytes_arg (P := Tryd.prog) (w.alloc (.cells #[.int .u8 c] 5)) 34 5 Tryd.underlying34 Tryd.underlying5 w.heap.size 0 1 1 [c] rfl (fun i hi => by
    have : i = 0 := by omega
    subst this
    exact (Has.new w [.int .u8 c] 5).c1) 9 Tryd.underlying9
  exact h
/-- The text of the other size, as it grows. -/
def CRel (s : ByteArray) (w : World) (x y : Value) (wr : World) : Prop :=
  ∃ (k : Nat) (o : ByteArray), k ≤ s.size ∧ y = .int .i64 (k : Int) ∧ x = .string o ∧ o.data.toList = 32 :: oth (s.data.toList.take k) ∧ o.size ≤ 1 + 3 * k ∧ Below w.heap.size w wr
theorem oth_snoc (s : ByteArray) (k : Nat) (h : k < s.size) : oth (s.data.toList.take (k + 1)) = oth (s.data.toList.take k) ++ (if s[k] = 32 then [32, 32, 32] else [tog s[k]]) := by
  rw [List.take_add_one, List.getElem?_eq_getElem (by simpa using h), oth_app]
  congr 1
  unfold oth
  simp
  rfl
theorem grow (s o p : ByteArray) (k : Nat) (h : k < s.size) (ho : o.data.toList = 32 :: oth (s.data.toList.take k)) (hp : p.data.toList = if s[k] = 32 then [32, 32, 32] else [tog s[k]]) : (o ++ p).data.toList = 32 :: oth (s.data.toList.take (k + 1)) := by
  rw [oth_snoc s k h]
  simp [ByteArray.data_append, ho, hp]

theorem u8_of {c : UInt8} {n : Nat} (h : c.toNat = n) : UInt8.ofNat n = c := by
  rw [← UInt8.toNat_inj, UInt8.toNat_ofNat', h]
  have := UInt8.toNat_lt c
  omega
theorem small_c {c : UInt8} (h : 97 ≤ c.toNat ∧ c.toNat ≤ 122) : (⟨#[UInt8.ofNat (c.toNat - 32)]⟩ : ByteArray).data.toList = if c = 32 then [32, 32, 32] else [tog c] := by
  have h1 : c ≠ 32 := fun e => by rw [e] at h; exact absurd h.1 (by decide)
  rw [if_neg h1, u8_of (c := tog c) (by rw [tog_nat, if_pos h])]
theorem great_c {c : UInt8} (h : 65 ≤ c.toNat ∧ c.toNat ≤ 90) : (⟨#[c + 32]⟩ : ByteArray).data.toList = if c = 32 then [32, 32, 32] else [tog c] := by
  have h1 : c ≠ 32 := fun e => by rw [e] at h; exact absurd h.1 (by decide)
  rw [if_neg h1]
  unfold tog
  rw [if_neg (by omega), if_pos h]
theorem rest_c {c : UInt8} (h : ¬ (97 ≤ c.toNat ∧ c.toNat ≤ 122) ∧ ¬ (65 ≤ c.toNat ∧ c.toNat ≤ 90)) (h32 : c.toNat ≠ 32) : (⟨#[c]⟩ : ByteArray).data.toList = if c = 32 then [32, 32, 32] else [tog c] := by
  have h1 : c ≠ 32 := fun e => h32 (by rw [e]; rfl)
  rw [if_neg h1]
  unfold tog
  rw [if_neg h.1, if_neg h.2]
theorem no_q {L : List UInt8} (h : hasQ L = false) : ∀ j, j < L.length → quoB (bt L j) = false := by
  intro j hj
  unfold hasQ at h
  rw [List.any_eq_false] at h
  rw [bt_some (List.getElem?_eq_getElem hj)]
  simpa using h _ (List.getElem_mem hj)
set_option maxRecDepth 100000 in
set_option maxHeartbeats 4000000 in
theorem case_main (s : ByteArray) (hs : s.size ≤ 300) (hq : hasQ s.data.toList = false) (w : World) (ht : TB w) :
    Calls Tryd.prog 6 #[.string s] w fun e w' => e = .returned (.bool true) ∧ Below w.heap.size w w' := by
  have Hq := Lib.hid hq; have Ht := Lib.hid ht
  clear hq ht
  go_enter Tryd.func6, Tryd.ntmps6
  go_wp2_with fail
  refine (hasQuote_c s (by omega) w).mono ?_
  rw [Hq.out]
  rintro e w' ⟨rfl, rfl⟩
  go_wp2_with fail
  go_loopw [3, 4] (fun x y wr => CRel s w x y wr) (fun _ y _ => s.size - (intOf y).toNat)
  case atStart => exact ⟨0, ⟨#[32]⟩, by omega, rfl, rfl, rfl, by decide, Below.refl _ _⟩
  case round =>
    obtain ⟨k, o, hk, rfl, rfl, ho, hos, hB⟩ := hrel
    have Ho := Lib.hid ho; clear ho
    by_cases hlt : k < s.size
    · have hcv := conv1 wr
      go_wp2_with fail
      · exact ⟨⟨k + 1, _, by omega, by go_num, rfl, grow s o _ k hlt Ho.out (small_c (by omega)), by rw [ByteArray.size_append]; have : (⟨#[UInt8.ofNat (s[k].toNat - 32)]⟩ : ByteArray).size = 1 := rfl; omega, hB.alloc hB.size _⟩, by simp [intOf]; omega⟩
      · exact ⟨⟨k + 1, _, by omega, by go_num, rfl, grow s o _ k hlt Ho.out (rest_c (by omega) (by omega)), by rw [ByteArray.size_append]; have : (⟨#[s[k]]⟩ : ByteArray).size = 1 := rfl; omega, hB.alloc hB.size _⟩, by simp [intOf]; omega⟩
      · exact ⟨⟨k + 1, _, by omega, by go_num, rfl, grow s o _ k hlt Ho.out (great_c (by omega)), by rw [ByteArray.size_append]; have : (⟨#[s[k] + 32]⟩ : ByteArray).size = 1 := rfl; omega, hB.alloc hB.size _⟩, by simp [intOf]; omega⟩
      · exact ⟨⟨k + 1, _, by omega, by go_num, rfl, grow s o _ k hlt Ho.out (rest_c (by omega) (by omega)), by rw [ByteArray.size_append]; have : (⟨#[s[k]]⟩ : ByteArray).size = 1 := rfl; omega, hB.alloc hB.size _⟩, by simp [intOf]; omega⟩
      · have h32 : s[k] = 32 := by
          have h : ((s[k].toNat : Int) == 32) = true := by assumption
          rw [← UInt8.toNat_inj]; simp at h ⊢; omega
        refine ⟨⟨k + 1, _, by omega, by go_num, rfl, ?_, ?_, hB.alloc hB.size _⟩, by simp [intOf]; omega⟩
        · rw [ByteArray.append_assoc]
          exact grow s o _ k hlt Ho.out (by rw [if_pos h32, h32]; rfl)
        · rw [ByteArray.size_append, ByteArray.size_append]
          have h1 : (⟨#[s[k]]⟩ : ByteArray).size = 1 := rfl
          have h2 : (⟨#[32, 32]⟩ : ByteArray).size = 2 := rfl
          omega
      · have h32 : ((s[k].toNat : Int) == 32) = false := by assumption
        exact ⟨⟨k + 1, _, by omega, by go_num, rfl, grow s o _ k hlt Ho.out (rest_c (by omega) (by simp at h32; omega)), by rw [ByteArray.size_append]; have : (⟨#[s[k]]⟩ : ByteArray).size = 1 := rfl; omega, hB.alloc hB.size _⟩, by simp [intOf]; omega⟩
    · obtain rfl : k = s.size := by omega
      have hsc := scan_oth s.data.toList (no_q Hq.out)
      have ho : o.data.toList = 32 :: oth s.data.toList := by
        have := Ho.out
        rwa [List.take_of_length_le (by simp)] at this
      rcases hA : scanP s.data.toList with ⟨l, p, e⟩
      rcases hC : scanP o.data.toList with ⟨m, q, f⟩
      rw [← ho, hA, hC] at hsc
      simp only [] at hsc
      obtain ⟨rfl, rfl⟩ := hsc
      have H1 := Lib.hid hA; have H2 := Lib.hid hC
      clear hA hC ho Ho
      have Ht1 := Lib.hid (Ht.out.keep hB)
      go_wp2_with fail
      refine (Scan_c s (by omega) _ Ht1.out).mono ?_
      intro ee w1 hp
      obtain ⟨v1, rfl, ho1, hB1⟩ := scan_as H1.out hp
      have Ht2 := Lib.hid (Ht1.out.keep hB1)
      have hB := bt_ hB hB1
      clear hp
      go_wp2_with fail
      refine (Scan_c o (by omega) _ Ht2.out).mono ?_
      intro ee w2 hp
      obtain ⟨v2, rfl, ho2, hB2⟩ := scan_as H2.out hp
      have Ht3 := Lib.hid (Ht2.out.keep hB2)
      have hB := bt_ hB hB2
      have hr1 := RT.of_own (own_below ho1 hB2)
      have hr2 := RT.of_own ho2
      clear hp ho1 ho2 hB1 hB2
      go_wp2_with fail
      refine (Same_c _ _ _ _ _ hr1 hr2).mono ?_
      rintro ee w6 ⟨rfl, nn, rfl⟩
      rw [decide_eq_true (rfl : l = l)]
      clear hr1 hr2
      go_wp2_with fail
      refine (Awake_c _ (Ht3.out.keep (below_dn (Below.refl _ _) nn))).mono ?_
      rintro ee w7 ⟨rfl, hB7⟩
      go_wp2
      go_ret
      exact ⟨rfl, bt_ (below_dn hB nn) hB7⟩

set_option maxRecDepth 100000 in
set_option maxHeartbeats 1000000 in
theorem case_far (s : ByteArray) (hs : s.size ≤ 9223372036854775807) (h : 300 < s.size ∨ hasQ s.data.toList = true) (w : World) (ht : TB w) :
    Calls Tryd.prog 6 #[.string s] w fun e w' => e = .returned (.bool true) ∧ Below w.heap.size w w' := by
  have H := Lib.hid (Awake_c w ht)
  clear ht
  by_cases hl : 300 < s.size
  · clear h
    go_enter Tryd.func6, Tryd.ntmps6
    go_wp2_with (go_at_call 8; refine H.out.mono ?_; rintro e w1 ⟨rfl, hB⟩)
    go_ret
    exact ⟨rfl, hB⟩
  · have hq : hasQ s.data.toList = true := by rcases h with h | h; exact absurd h hl; exact h
    have Hq := Lib.hid hq
    clear h hq
    go_enter Tryd.func6, Tryd.ntmps6
    go_wp2_with fail
    refine (hasQuote_c s (by omega) w).mono ?_
    rw [Hq.out]
    rintro e w' ⟨rfl, rfl⟩
    go_wp2_with (go_at_call 8; refine H.out.mono ?_; rintro e w1 ⟨rfl, hB⟩)
    go_ret
    exact ⟨rfl, hB⟩

theorem tokenCase_walk (s : ByteArray) (hs : s.size ≤ 9223372036854775807) (w : World) (ht : TB w) :
    Calls Tryd.prog 6 #[.string s] w fun e w' => e = .returned (.bool true) ∧ Below w.heap.size w w' := by
  by_cases h : 300 < s.size ∨ hasQ s.data.toList = true
  · exact case_far s hs h w ht
  · exact case_main s (by omega) (by simpa using fun e => h (.inr e)) w ht

set_option maxRecDepth 100000 in
theorem tokenCase_lifted (os : Os) (started : os.Started) (H : Type) (enc : TypeId × Value → H) :
    ReturnsInHanded {} Tryd.checked os 6 .any (fun w args => (Rows.tokenCaseSpec.pre enc Tryd.prog Tryd.f6 [] false w args ∧ laidMetH Tryd.prog laidL w) ∧ sizedMet enc Tryd.prog Tryd.f6 (OpenSpec.ofChange Rows.tokenCaseSpec) false w args)
      (Rows.tokenCaseSpec.post enc Tryd.prog Tryd.f6 false true false false) := by
  refine returnsInHanded_of_change_and (C := Tryd.checked) (X := fun w _ => laidMetH Tryd.prog laidL w) (fun _ _ _ hh h => h.of_heap hh) own started (by kernel_rfl) Tryd.func6
    (ChangeSpec.witness_shaped (enc := enc) (C := Tryd.checked) (os := os) (X := fun w _ => laidMetH Tryd.prog laidL w) false (World.laidAll Tryd.prog os laidL) #[.string ⟨#[]⟩] 8 (World.laidAll_os _ _ _) (World.shaped_of_ZipB (by kernel_rfl) (by kernel_rfl)) (by kernel_rfl) (by kernel_rfl) (by kernel_rfl) (door_met os _)) ?_
  intro W base args ds gs before hval0 hW _ _ hL _
  have hval : ∀ (j : Nat) t v, Tryd.f6.params[j]? = some t → args[j]? = some v → Value.okWide Tryd.prog W .any base t v := hval0
  have hW' := hW
  obtain ⟨p, q, hA0, hV, rfl, hfz, hnd⟩ := hW
  have hA : DataW.TrodAll enc Tryd.prog W 0 (fun _ => true) true Tryd.f6.params.toList args.toList ds p := hA0
  rw [Tryd.params6] at hA hval
  obtain ⟨v0, vs0, d0, ds0, p0, q0, hargs, rfl, rfl, h0, r0⟩ := trodAll_cons hA
  obtain ⟨rfl, rfl, rfl⟩ := trodAll_nil r0
  obtain rfl : args = #[v0] := by cases args; simp_all
  obtain ⟨rfl, rfl⟩ := trodVars_none hV
  obtain ⟨a0, rfl, rfl, rfl, w0⟩ := open_string Tryd.underlying9 (hval 0 9 v0 rfl rfl) h0
  have hcn := of_laid hL
  clear hA0 hval0
  simp only [List.append_nil] at hW'
  refine (tokenCase_walk a0 (by unfold maxLen at w0; exact w0) W hcn).mono fun e W' ⟨he, hb⟩ => ?_
  subst he
  exact ⟨_, rfl, post_plain hW' (fun _ _ _ => (trodAll_cons_mk (shut_bool Tryd.underlying4 _) trodAll_mk0)) (fun _ => (trodAll_cons_mk (shut_string Tryd.underlying9 w0) trodAll_mk0)) (fun _ => rfl) hb (ok_one (by kernel_rfl) rfl (okWide_bool_mk Tryd.underlying4 _))⟩

theorem tokenCase_holds : Rows.TokenCaseSaid :=
  OpenClaim.holds_of_wide 6 Tryd.f6 rfl rfl rfl rfl rfl rfl rfl ⟨rfl, rfl, rfl, rfl, rfl⟩ rfl rfl rfl rfl rfl (by kernel_rfl) Tryd.func6 (by kernel_rfl)
    (of_decide_eq_true (by kernel_rfl)) (by unfold Func.isWrapper; first | (rw [if_pos (by decide +kernel)]; kernel_rfl) | (rw [if_neg (by decide +kernel)]; exact ⟨rfl, rfl⟩))
    (fun os started H enc _ => tokenCase_lifted os started H enc)

theorem tokenCase_card : Rows.TokenCaseCardSaid :=
  Claim7.holds_tied_plain_at .later [] [.data, .data, .data, .pinned, .pinned] true Rows.tokenCaseCard.stood.harness false
    tokenCase_holds (fun _ h => by cases h) (by kernel_rfl) (fun _ h => by cases h) tokenCase_row_tie rfl ⟨rfl, rfl⟩ (by kernel_rfl) rfl
    (fun f fn hf hfn => by
      obtain rfl : f = 6 := Option.some.inj ((show Tryd.prog.funcNamed "quadrat/quadratlaw04.TokenCase" = some 6 by kernel_rfl).symm.trans hf) |>.symm
      obtain rfl : fn = Tryd.f6 := (Option.some.inj (Tryd.func6.symm.trans hfn)).symm
      exact ⟨by kernel_rfl, fun j t ht => by
        rw [Tryd.params6] at ht
        have hm : t ∈ [9] := by simpa using Array.mem_of_getElem? ht
        have hall : ([9].all fun u => !Tryd.prog.wantsStandIn u) = true := by kernel_rfl
        exact (show Tryd.prog.wantsStandIn t = false by simpa using List.all_eq_true.1 hall t hm)⟩)
    (by kernel_rfl)
#print axioms tokenCase_card
end Go.Proofs.YtcafnpfhjiaolaaDoor

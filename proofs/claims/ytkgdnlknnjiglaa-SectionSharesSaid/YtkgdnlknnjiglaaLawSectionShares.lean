/-
  PROVED: the law SectionShares (whether two descriptors have a place in common, whichever is asked first) returns true for every two descriptors. No condition.
-/
import Derived.Test.YtkgdnlknnjiglaaLawA
import Derived.Test.YtkgdnlknnjiglaaShC
namespace Go.Proofs.Ytkgdnlknnjiglaa
open Go Go.ChangeShapes Go.WideShapes Go.ChangeAt Go.WideMaps Go.WideElems Go.RowKit Go.ChangeMaps

theorem plcW_len {d : DS} (hd : okD d) : pr d.ex = ((plcW d).length : Int) := by
  have h := gat_eq hd
  have hl : (plcW d).length = (pr d.ex).toNat := by rw [← h]; simp [gatL]
  have := (pr_small (okE_iff.1 hd.1).1 (okE_iff.1 hd.1).2.1).1
  omega
theorem shR_comm (a b : DS) : shR b a = shR a b := by
  unfold shR svB
  rw [shB_comm, Bool.and_comm (vldB b)]
/-- What sharing with itself tells, and the size: alike. -/
theorem shR_self (a : DS) : ∃ (o : Bool) (h : Int) (L : Nat), shR a a = .tuple #[.bool o, .int .i64 h] ∧ szR a = .tuple #[.int .i64 (L : Int), .int .i64 h] ∧ o = decide (0 < L) ∧ L ≤ 4000 := by
  rcases hv : vldB a with _ | _
  · exact ⟨false, 2, 0, sh_no (by unfold svB; rw [hv]; rfl), szR_no hv, rfl, by omega⟩
  · exact ⟨_, 0, (plcW a).length, sh_yes (by unfold svB; rw [hv]; rfl), by rw [szR_yes hv, plcW_len (vld_ok hv)], shB_self _, plcW_le (vld_ok hv)⟩
set_option maxRecDepth 100000 in
set_option maxHeartbeats 4000000 in
theorem sectionShares_walk (w : World) (v1 : Value) (a : DS) (h1 : RD w v1 a) (v2 : Value) (b : DS) (h2 : RD w v2 b) :
    Calls Try.prog 9 #[v1, v2] w fun e w' => e = .returned (.bool true) ∧ Below w.heap.size w w' := by
  have h10 := h1; have h20 := h2
  obtain ⟨ve1, vt1, rfl, -, -, -⟩ := h1
  obtain ⟨ve2, vt2, rfl, -, -, -⟩ := h2
  have HB := Lib.hid (bt_ (box_below w (.cells #[.int .i64 a.b, ve1, vt1] 31)) (box_below _ (.cells #[.int .i64 b.b, ve2, vt2] 31)))
  have HX1 := Lib.hid ((Has.new w [.int .i64 a.b, ve1, vt1] 31).alloc (.cells #[.int .i64 b.b, ve2, vt2] 31))
  have HX2 := Lib.hid (Has.new (w.alloc (.cells #[.int .i64 a.b, ve1, vt1] 31)) [.int .i64 b.b, ve2, vt2] 31)
  rw [World.size_alloc] at HX2
  have HR1 := Lib.hid (h10.keep HB.out); have HR2 := Lib.hid (h20.keep HB.out)
  have HA := Lib.hid Awake_c
  obtain ⟨x, e0, hxe⟩ : ∃ (x : Bool) (e : Int), shR a b = .tuple #[.bool x, .int .i64 e] := ⟨_, _, rfl⟩
  obtain ⟨o, hh, L, hs1, hs2, ho, hL4⟩ := shR_self a
  have HXE := Lib.hid hxe
  have H1 := Lib.hid (Share_c _ _ a b _ HR1.out HR2.out)
  rw [hxe] at H1
  have HS1 := Lib.hid hs1; have HS2 := Lib.hid hs2
  have HXE2 := Lib.hid ((shR_comm a b).trans hxe)
  clear h10 h20 hxe hs1 hs2
  have fb : (x == x) = true := by simp
  have fb2 : (x != x) = false := by simp
  have fo : (o == o) = true := by simp
  by_cases hL : 0 < L
  all_goals
    first
    | (have g1 : decide ((0 : Int) < (L : Int)) = true := by (simp; omega)
       have g2 : decide (0 < L) = true := by simpa using hL
       rw [g2] at ho
       have HO := Lib.hid ho)
    | (have g1 : decide ((0 : Int) < (L : Int)) = false := by (simp; omega)
       have g2 : decide (0 < L) = false := by simpa using hL
       rw [g2] at ho
       have HO := Lib.hid ho)
    clear ho hL
    go_enter Try.func9, Try.ntmps9
    go_wp2_with fail
    refine H1.out.mono ?_
    rintro e w1 ⟨rfl, hb⟩
    have HB1 := Lib.hid (bt_ HB.out hb)
    obtain ⟨x1, x2, x3⟩ := (HX1.out.keep hb).c3
    obtain ⟨y1, y2, y3⟩ := (HX2.out.keep hb).c3
    have HX1a := Lib.hid (HX1.out.keep hb); have HX2a := Lib.hid (HX2.out.keep hb)
    have HR1a := Lib.hid (HR1.out.keep hb); have HR2a := Lib.hid (HR2.out.keep hb)
    have H2 := Lib.hid (rShare_c _ _ a b _ HR1a.out HR2a.out)
    rw [HXE.out] at H2
    clear hb
    go_wp2_with fail
    refine H2.out.mono ?_
    rintro e w2 ⟨rfl, hb⟩
    have HB2 := Lib.hid (bt_ HB1.out hb)
    obtain ⟨x1, x2, x3⟩ := (HX1a.out.keep hb).c3
    obtain ⟨y1, y2, y3⟩ := (HX2a.out.keep hb).c3
    have HX1b := Lib.hid (HX1a.out.keep hb)
    have HR1b := Lib.hid (HR1a.out.keep hb); have HR2b := Lib.hid (HR2a.out.keep hb)
    have H3 := Lib.hid (Share_c _ _ b a _ HR2b.out HR1b.out)
    rw [HXE2.out] at H3
    clear hb
    go_wp2_with fail
    refine H3.out.mono ?_
    rintro e w3 ⟨rfl, hb⟩
    have HB3 := Lib.hid (bt_ HB2.out hb)
    obtain ⟨x1, x2, x3⟩ := (HX1b.out.keep hb).c3
    have HX1c := Lib.hid (HX1b.out.keep hb)
    have HR1c := Lib.hid (HR1b.out.keep hb)
    have H4 := Lib.hid (Share_c _ _ a a _ HR1c.out HR1c.out)
    rw [HS1.out, HO.out] at H4
    clear hb
    cases x
    all_goals
      go_wp2_with fail
      refine H4.out.mono ?_
      rintro e w4 ⟨rfl, hb⟩
      have HB4 := Lib.hid (bt_ HB3.out hb)
      obtain ⟨x1, x2, x3⟩ := (HX1c.out.keep hb).c3
      have H5 := Lib.hid (Size_c _ a _ (HR1c.out.keep hb))
      rw [HS2.out] at H5
      clear hb
      go_wp2_with fail
      refine H5.out.mono ?_
      rintro e w5 ⟨rfl, hb⟩
      have HB5 := Lib.hid (bt_ HB4.out hb)
      clear hb
      go_wp2_with fail
      refine (HA.out _).mono ?_
      rintro e w6 ⟨rfl, hb6⟩
      go_wp2
      go_ret
      exact ⟨rfl, bt_ HB5.out hb6⟩

set_option maxRecDepth 100000 in
theorem sectionShares_lifted (os : Os) (started : os.Started) (H : Type) (enc : TypeId × Value → H) :
    ReturnsInHanded {} Try.checked os 9 .any (Rows.sectionSharesSpec.pre6 enc Try.prog Try.f9 [] false) (Rows.sectionSharesSpec.post enc Try.prog Try.f9 false true false false) := by
  refine returnsInHanded_of_change_sized (C := Try.checked) own started (by kernel_rfl) Try.func9
    (ChangeSpec.witness6 (enc := enc) (C := Try.checked) false ⟨#[], #[.agg #[.int .i64 0, .slice none 0 0, .slice none 0 0], .agg #[.int .i64 0, .slice none 0 0, .slice none 0 0]], []⟩ 8 (by kernel_rfl) (by kernel_rfl) (by kernel_rfl) (by kernel_rfl)) ?_
  intro W base args ds gs before hval0 hW _ hsz0 _
  have hval : ∀ (j : Nat) t v, Try.f9.params[j]? = some t → args[j]? = some v → Value.okWide Try.prog W .any base t v := hval0
  have hsz := hsz0
  have hW' := hW
  obtain ⟨p, q, hA0, hV, rfl, hfz, hnd⟩ := hW
  have hA : DataW.TrodAll enc Try.prog W 0 (fun _ => true) true Try.f9.params.toList args.toList ds p := hA0
  rw [Try.params9] at hA hval
  obtain ⟨v0, vs0, d0, ds0, p0, q0, hargs, rfl, rfl, h0, r0⟩ := trodAll_cons hA
  obtain ⟨v1, vs1, d1, ds1, p1, q1, rfl, rfl, rfl, h1, r1⟩ := trodAll_cons r0
  obtain ⟨rfl, rfl, rfl⟩ := trodAll_nil r1
  obtain rfl : args = #[v0, v1] := by cases args; simp_all
  obtain ⟨rfl, rfl⟩ := trodVars_none hV
  obtain ⟨s0, k0⟩ := open_desc (hval 0 31 v0 rfl rfl) h0
  obtain ⟨s1, k1⟩ := open_desc (hval 1 31 v1 rfl rfl) h1
  clear hA0 hval0
  simp only [List.append_nil] at hW'
  have hlt : ∀ x ∈ (p0 ++ p1), x.block < W.heap.size := by
    intro x hx; exact hW'.lt x hx
  refine (sectionShares_walk W _ s0 k0 _ s1 k1 ).mono fun e W' ⟨he, hb⟩ => ?_
  subst he
  exact ⟨_, rfl, post_mem hW' (fun _ _ _ => (trodAll_cons_mk (shut_bool Try.underlying4 _) trodAll_mk0)) (fun sp hsp => (trodAll_cons_mk (WideElems.Trod_stays (by kernel_rfl) (by kernel_rfl) (of_decide_eq_true (by kernel_rfl)) h0 (fun x hx => hb.same (hlt x (by simp [hx]))) (fun x hx => hsp x (by simp [hx]))) (trodAll_mk1 (WideElems.Trod_stays (by kernel_rfl) (by kernel_rfl) (of_decide_eq_true (by kernel_rfl)) h1 (fun x hx => hb.same (hlt x (by simp [hx]))) (fun x hx => hsp x (by simp [hx])))))) (fun _ => rfl) hb (ok_one (by kernel_rfl) rfl (okWide_bool_mk Try.underlying4 _))⟩

theorem sectionShares_holds : Rows.SectionSharesSaid :=
  OpenClaim.holds_of_wide 9 Try.f9 rfl rfl rfl rfl rfl rfl rfl ⟨rfl, rfl, rfl, rfl, rfl⟩ rfl rfl rfl rfl rfl (by kernel_rfl) Try.func9 (by kernel_rfl)
    (of_decide_eq_true (by kernel_rfl)) (by unfold Func.isWrapper; first | (rw [if_pos (by decide +kernel)]; kernel_rfl) | (rw [if_neg (by decide +kernel)]; exact ⟨rfl, rfl⟩))
    (fun os started H enc _ => sectionShares_lifted os started H enc)
#print axioms sectionShares_holds
end Go.Proofs.Ytkgdnlknnjiglaa

/-
  PROVED: the law SectionNexts (which subscripts come next) returns true for every two lists. No condition.
-/
import Derived.Test.YtkgdnlknnjiglaaLawA
import Derived.Test.YtkgdnlknnjiglaaSecU
namespace Go.Proofs.Ytkgdnlknnjiglaa
open Go Go.ChangeShapes Go.WideShapes Go.ChangeAt Go.WideMaps Go.WideElems Go.RowKit Go.ChangeMaps

/-- A list of numbers is no longer than the reach of the form. -/
theorem list_sized {H : Type} {enc : TypeId × Value → H} {W : World} {base : Nat} {sp : Nat → Bool} {held : Bool} {v : Value} {d : DataW H} {p : List MemPlace} {l : List Int} {ts : List TypeId} {ds : List (DataW H)} {j : Nat}
    (h : DataW.Trod enc Try.prog W base sp held 29 v d p) (hl : RI W v l) (hsz : (DataW.weightsEach Try.prog ts ds).all (· ≤ reachBytes) = true) (ht : ts[j]? = some 29) (hd : ds[j]? = some d) : l.length * 8 ≤ reachBytes := by
  obtain ⟨fuel, hf⟩ := h
  obtain ⟨A, c, rfl⟩ := hl.slice
  have hcs : (Value.slice A l.length c).cells.toList = [.slice A l.length c] := rfl
  rw [hcs] at hf
  rcases Go.Deep.open_slice Try.underlying29 hf with ⟨h1, _⟩ | ⟨a, len, cap, m, n, D, Pl, h1, hb, hlc, hm, hmm, hx, hi⟩
  · simp only [List.cons.injEq, Value.slice.injEq, and_true] at h1
    rw [h1.2.1]; simp
  · simp only [List.cons.injEq, Value.slice.injEq, and_true] at h1
    obtain ⟨_, rfl, _⟩ := h1
    simp only [Prod.mk.injEq] at hx
    have h2 := sized_slice hsz ht (by rw [hd, hx.1]) Try.underlying29
    rw [show Try.prog.bytesOf 3 = 8 by kernel_rfl] at h2
    simp at h2
    omega
set_option maxRecDepth 100000 in
set_option maxHeartbeats 4000000 in
theorem sectionNexts_walk (w : World) (v0 : Value) (E : List Int) (h0 : RI w v0 E) (v1 : Value) (S : List Int) (h1 : RI w v1 S) (hlen : S.length * 8 ≤ reachBytes) :
    Calls Try.prog 10 #[v0, v1] w fun e w' => e = .returned (.bool true) ∧ Below w.heap.size w w' := by
  have HE := Lib.hid h0; have HS := Lib.hid h1
  have hl : S.length ≤ 17592186044416 := by unfold reachBytes at hlen; omega
  have HA := Lib.hid Awake_c
  clear h0 h1 hlen
  go_enter Try.func10, Try.ntmps10
  go_wp2_with (at_builtin; refine wpList_app rfl _ _ rfl w.heap.size _ _ [] S rfl (OW.empty w _ (Nat.le_refl _)) rfl (HS.out.keep (box_below _ _)) (by simp; omega) (by simp) ?_)
  intro v5 w1 a1 a2 a3
  have hb1 : Below w.heap.size w w1 := (box_below w (.cells #[] 3)).grown a2 (by simp) (fun k hk => by
    have : w.heap.size = k := by simpa [Value.ownBlock] using hk
    omega)
  have HB1 := Lib.hid hb1
  have HO1 := Lib.hid a1
  clear a1 a2 a3 hb1
  go_wp2_with (at_builtin; refine wpList_app rfl _ _ rfl w1.heap.size _ _ [] S rfl (OW.empty w1 _ (Nat.le_refl _)) rfl (HS.out.keep (bt_ HB1.out (box_below _ _))) (by simp; omega) (by simp) ?_)
  intro v6 w2 a1 a2 a3
  have hb2 : Below w1.heap.size w1 w2 := (box_below w1 (.cells #[] 3)).grown a2 (by simp) (fun k hk => by
    have : w1.heap.size = k := by simpa [Value.ownBlock] using hk
    omega)
  have HB2 := Lib.hid (bt_ HB1.out hb2)
  have HO5 := Lib.hid (HO1.out.keep hb2)
  have HO6 := Lib.hid (a1.more HB1.out.size)
  have HAP := Lib.hid (show ∀ g, v5.ownBlock = some g → ∀ k, v6.ownBlock = some k → k ≠ g from fun g hg k hk => by
    have h1 := (HO1.out.lt g hg).2
    have h2 := (a1.lt k hk).1
    omega)
  clear a1 a2 a3 hb2
  have H1 := Lib.hid (Next_c w w2 v0 v5 E S HE.out HB2.out HO5.out.oi.1 HO5.out.oi.2)
  go_wp2_with fail
  refine H1.out.mono ?_
  rintro e w3 ⟨rfl, ho5, hk3⟩
  have HB3 := Lib.hid (hk3.below HB2.out (fun i hi => (HO5.out.lt i hi).1) HB2.out.size)
  have HO5' := Lib.hid ho5
  have HO6' := Lib.hid (HO6.out.oi.1.kb hk3 (fun g hg h => HAP.out g h g hg rfl))
  clear ho5 hk3
  have H2 := Lib.hid (rNext_c w w3 v0 v6 E S HE.out HB3.out HO6'.out)
  go_wp2_with fail
  refine H2.out.mono ?_
  rintro e w4 ⟨rfl, ho6, hk4⟩
  have HB4 := Lib.hid (hk4.below HB3.out (fun i hi => (HO6.out.lt i hi).1) HB3.out.size)
  have HO5'' := Lib.hid (HO5'.out.kb hk4 (fun g hg h => HAP.out g hg g h rfl))
  have HO6'' := Lib.hid ho6
  clear ho6 hk4
  have H3 := Lib.hid (sameInts_c v5 v6 _ _ w4 HO5''.out.ri HO6''.out.ri)
  rw [decide_eq_true (rfl : nextS E S = nextS E S)] at H3
  generalize nextB E S = b at *
  have hbb : (b == b) = true := by simp
  cases b
  all_goals
    go_wp2_with fail
    refine H3.out.mono ?_
    rintro e w5 ⟨rfl, nn, rfl⟩
    go_wp2_with fail
    refine (HA.out _).mono ?_
    rintro e w6 ⟨rfl, hb6⟩
    go_wp2
    go_ret
    exact ⟨rfl, bt_ (below_dn HB4.out _) hb6⟩

set_option maxRecDepth 100000 in
theorem sectionNexts_lifted (os : Os) (started : os.Started) (H : Type) (enc : TypeId × Value → H) :
    ReturnsInHanded {} Try.checked os 10 .any (Rows.sectionNextsSpec.pre6 enc Try.prog Try.f10 [] false) (Rows.sectionNextsSpec.post enc Try.prog Try.f10 false true false false) := by
  refine returnsInHanded_of_change_sized (C := Try.checked) own started (by kernel_rfl) Try.func10
    (ChangeSpec.witness6 (enc := enc) (C := Try.checked) false ⟨#[], #[.slice none 0 0, .slice none 0 0], []⟩ 8 (by kernel_rfl) (by kernel_rfl) (by kernel_rfl) (by kernel_rfl)) ?_
  intro W base args ds gs before hval0 hW _ hsz0 _
  have hval : ∀ (j : Nat) t v, Try.f10.params[j]? = some t → args[j]? = some v → Value.okWide Try.prog W .any base t v := hval0
  have hsz := hsz0
  have hW' := hW
  obtain ⟨p, q, hA0, hV, rfl, hfz, hnd⟩ := hW
  have hA : DataW.TrodAll enc Try.prog W 0 (fun _ => true) true Try.f10.params.toList args.toList ds p := hA0
  rw [Try.params10] at hA hval
  obtain ⟨v0, vs0, d0, ds0, p0, q0, hargs, rfl, rfl, h0, r0⟩ := trodAll_cons hA
  obtain ⟨v1, vs1, d1, ds1, p1, q1, rfl, rfl, rfl, h1, r1⟩ := trodAll_cons r0
  obtain ⟨rfl, rfl, rfl⟩ := trodAll_nil r1
  obtain rfl : args = #[v0, v1] := by cases args; simp_all
  obtain ⟨rfl, rfl⟩ := trodVars_none hV
  obtain ⟨l0, k0⟩ := open_list (hval 0 29 v0 rfl rfl) h0
  obtain ⟨l1, k1⟩ := open_list (hval 1 29 v1 rfl rfl) h1
  have hlen := list_sized h1 k1 hsz (j := 1) (by rw [Try.params10]; rfl) (by simp)
  clear hA0 hval0
  simp only [List.append_nil] at hW'
  have hlt : ∀ x ∈ (p0 ++ p1), x.block < W.heap.size := by
    intro x hx; exact hW'.lt x hx
  refine (sectionNexts_walk W _ l0 k0 _ l1 k1 hlen ).mono fun e W' ⟨he, hb⟩ => ?_
  subst he
  exact ⟨_, rfl, post_mem hW' (fun _ _ _ => (trodAll_cons_mk (shut_bool Try.underlying4 _) trodAll_mk0)) (fun sp hsp => (trodAll_cons_mk (WideElems.Trod_stays (by kernel_rfl) (by kernel_rfl) (of_decide_eq_true (by kernel_rfl)) h0 (fun x hx => hb.same (hlt x (by simp [hx]))) (fun x hx => hsp x (by simp [hx]))) (trodAll_mk1 (WideElems.Trod_stays (by kernel_rfl) (by kernel_rfl) (of_decide_eq_true (by kernel_rfl)) h1 (fun x hx => hb.same (hlt x (by simp [hx]))) (fun x hx => hsp x (by simp [hx])))))) (fun _ => rfl) hb (ok_one (by kernel_rfl) rfl (okWide_bool_mk Try.underlying4 _))⟩

theorem sectionNexts_holds : Rows.SectionNextsSaid :=
  OpenClaim.holds_of_wide 10 Try.f10 rfl rfl rfl rfl rfl rfl rfl ⟨rfl, rfl, rfl, rfl, rfl⟩ rfl rfl rfl rfl rfl (by kernel_rfl) Try.func10 (by kernel_rfl)
    (of_decide_eq_true (by kernel_rfl)) (by unfold Func.isWrapper; first | (rw [if_pos (by decide +kernel)]; kernel_rfl) | (rw [if_neg (by decide +kernel)]; exact ⟨rfl, rfl⟩))
    (fun os started H enc _ => sectionNexts_lifted os started H enc)
#print axioms sectionNexts_holds
end Go.Proofs.Ytkgdnlknnjiglaa

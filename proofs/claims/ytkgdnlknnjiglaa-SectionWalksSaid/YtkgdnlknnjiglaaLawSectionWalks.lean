/-
  PROVED: the law SectionWalks (from the first subscripts on, one after the other, all elements are met, in the order of their places) returns true for every descriptor. No condition.
-/
import Derived.Test.YtkgdnlknnjiglaaLawA
import Derived.Test.YtkgdnlknnjiglaaSecZ
namespace Go.Proofs.Ytkgdnlknnjiglaa
open Go Go.ChangeShapes Go.WideShapes Go.ChangeAt Go.WideMaps Go.WideElems Go.RowKit Go.ChangeMaps

/-- The head of the walk. -/
def WKRel (d : DS) (B L : Nat) (w1 : World) (x : Value) (wr : World) : Prop :=
  ∃ i : Nat, i ≤ L ∧ x = .int .i64 (i : Int) ∧ OI wr B (.slice (some ⟨w1.heap.size, 0, none⟩) d.ex.length d.ex.length) (atI d.ex i) ∧ Below w1.heap.size w1 wr ∧ w1.heap.size < wr.heap.size
set_option maxRecDepth 100000 in
set_option maxHeartbeats 4000000 in
theorem sectionWalks_walk (w : World) (v0 : Value) (d : DS) (h0 : RD w v0 d) :
    Calls Try.prog 11 #[v0] w fun e w' => e = .returned (.bool true) ∧ Below w.heap.size w w' := by
  have hr := h0
  obtain ⟨ve, vt, rfl, he, ht, hfb⟩ := h0
  obtain ⟨E, ce, rfl⟩ := he.slice
  obtain ⟨T, ct, rfl⟩ := ht.slice
  have hme := he.len; have hmt := ht.len
  obtain ⟨o1, z1⟩ : ∃ o : Obj, o = .cells #[.int .i64 d.b, .slice E d.ex.length ce, .slice T d.st.length ct] 31 := ⟨_, rfl⟩
  have HB := Lib.hid (box_below w o1)
  have HX := Lib.hid (Has.new w [.int .i64 d.b, .slice E d.ex.length ce, .slice T d.st.length ct] 31)
  have HW := Lib.hid hr; have HE0 := Lib.hid he
  have H1 := Lib.hid (Places_c _ d _ (hr.keep HB.out))
  have HA := Lib.hid Awake_c
  rw [z1] at HB H1
  clear hr he ht hfb z1 o1
  by_cases hv : vldB d = true
  rotate_left
  · rw [show plL d = [] by unfold plL; rw [if_neg hv], show plE d = 2 by unfold plE; rw [if_neg hv]] at H1
    clear hv
    go_enter Try.func11, Try.ntmps11
    go_wp2_with fail
    refine H1.out.mono ?_
    rintro e w1 ⟨v, rfl, hri, hb1⟩
    obtain ⟨A, c, rfl⟩ := hri.slice
    have HB1 := Lib.hid (bt_ HB.out hb1)
    clear hri hb1
    go_wp2_with fail
    refine (HA.out _).mono ?_
    rintro e w3 ⟨rfl, hb3⟩
    go_wp2
    go_ret
    exact ⟨rfl, bt_ HB1.out hb3⟩
  rw [show plL d = plcW d by unfold plL; rw [if_pos hv], show plE d = 0 by unfold plE; rw [if_pos hv]] at H1
  have HO := Lib.hid (vld_ok hv); have HV := Lib.hid hv
  obtain ⟨L, hL⟩ : ∃ L, L = (plcW d).length := ⟨_, rfl⟩
  have HL := Lib.hid hL
  have mk := make29 d.ex.length (by have := (okE_iff.1 HO.out.1).1; omega)
  clear hv hL
  go_enter Try.func11, Try.ntmps11
  go_wp2_with fail
  refine H1.out.mono ?_
  rintro e w1 ⟨v, rfl, hri, hb1⟩
  obtain ⟨Al, cl, rfl⟩ : ∃ A c, v = .slice A L c := by
    obtain ⟨A, c, e⟩ := hri.slice
    rw [← HL.out] at e
    exact ⟨A, c, e⟩
  have hml : L ≤ 9223372036854775807 := by have := hri.len; have := HL.out; omega
  have HR1 := Lib.hid hri
  have HB1 := Lib.hid (bt_ HB.out hb1)
  have HX1 := Lib.hid (HX.out.keep hb1)
  obtain ⟨g1, g2, g3⟩ := HX1.out.c3
  clear hri hb1
  by_cases h5 : 500 < L
  · have f0 : decide ((500 : Int) < (L : Int)) = true := by simp; omega
    go_wp2_with fail
    refine (HA.out _).mono ?_
    rintro e w3 ⟨rfl, hb3⟩
    go_wp2
    go_ret
    exact ⟨rfl, bt_ HB1.out hb3⟩
  have f0 : decide ((500 : Int) < (L : Int)) = false := by simp; omega
  have hsb : w.heap.size < w1.heap.size := HX1.out.lt
  go_wp2_with fail
  go_loopw [6] (WKRel d w.heap.size L w1) (fun x _ => L - (intOf x).toNat)
  case atStart =>
    refine ⟨0, Nat.zero_le _, rfl, ?_, box_below _ _, by simp⟩
    refine ⟨_, d.ex.length, by rw [atI_len], by rw [atI_len]; omega, ?_, fun _ => ⟨w1.heap.size, rfl, by omega, ?_⟩⟩
    · intro x hx
      unfold atI zeros at hx
      rw [(List.mem_replicate.1 hx).2]; exact fit0
    · exact Has.new w1 (icells (zeros d.ex.length)) 3
  case round =>
    obtain ⟨i, hi, rfl, hO, hW1, hsz⟩ := hrel
    have hD := HX1.out.keep hW1
    have hR := HR1.out.keep hW1
    have hB := bt_ HB1.out hW1
    have HW1 := Lib.hid hW1
    clear hW1
    have hi0 : (0 : Int) ≤ (i : Int) := by omega
    by_cases hlt : i < L
    · obtain ⟨q1, q2, q3⟩ := plcW_gat HO.out (k := i) (by have := HL.out; omega)
      obtain ⟨y1, y2, y3⟩ := hD.c3
      obtain ⟨b3, o3, c3, y, e3, hy, m3⟩ := hR.at_ (k := i) (by have := HL.out; omega)
      rw [← HL.out] at e3
      obtain ⟨rfl, rfl⟩ : Al = some ⟨b3, o3, none⟩ ∧ cl = c3 := by simpa using e3
      have hyv : y = gv d (atI d.ex i) d.ex.length := by rw [hy] at q1; simpa using q1
      have HAT := Lib.hid (At_c _ _ d (atI d.ex i) wr (HW.out.keep hB) hO.ri)
      rw [at_walk HV.out (atI_in q3 i), ← hyv] at HAT
      have hnb := next_walk q3 (k := i) (by have := HL.out; omega)
      rw [q2, ← HL.out] at hnb
      have HNB := Lib.hid hnb
      have HOO := Lib.hid hO; have HDD := Lib.hid hD; have HRR := Lib.hid hR; have HBB := Lib.hid hB
      have fy : (y == y) = true := by simp
      have fy2 : (y != y) = false := by simp
      clear hO hD hR hB q1 q2 q3 e3 hy hyv hnb
      go_wp2_with fail
      refine HAT.out.mono ?_
      rintro e w2 ⟨rfl, hb2⟩
      have HB2 := Lib.hid (bt_ HBB.out hb2)
      have HW2 := Lib.hid (bt_ HW1.out hb2)
      have hD2 := HDD.out.keep hb2
      obtain ⟨y1, y2, y3⟩ := hD2.c3
      have m4 := ck hb2 m3
      have HNX := Lib.hid (Next_c w w2 (.slice E d.ex.length ce) _ d.ex (atI d.ex i) HE0.out HB2.out (HOO.out.keep hb2) (fun A n c e => by cases e; omega))
      have HRR2 := Lib.hid (HRR.out.keep hb2); have HDD2 := Lib.hid hD2
      have hsz2 : w1.heap.size < w2.heap.size := by have := hb2.size; omega
      clear hb2 hD2 m3
      go_wp2_with fail
      refine HNX.out.mono ?_
      rintro e w3 ⟨he, ho, hk3⟩
      rw [HNB.out] at he
      have HGE := Lib.hid (show ∀ g, (Value.slice (some ⟨w1.heap.size, 0, none⟩) d.ex.length d.ex.length).ownBlock = some g → g = w1.heap.size from fun g hg => by
        have : w1.heap.size = g := by simpa [Value.ownBlock] using hg
        omega)
      have HW3 := Lib.hid (hk3.below HW2.out (fun k hk => by have := HGE.out _ hk; omega) HW2.out.size)
      have HO3 := Lib.hid ho
      have HB3 := Lib.hid (bt_ HB1.out HW3.out)
      have hsz3 : w1.heap.size < w3.heap.size := by have := hk3.size; omega
      clear ho hk3
      by_cases hla : i + 1 < L
      · rw [decide_eq_true hla] at he
        subst he
        have g1 : decide ((i : Int) < (L : Int) - 1) = true := by simp; omega
        go_wp2
        go_roundw
        case rel => exact ⟨i + 1, by omega, by go_num, HO3.out, HW3.out, hsz3⟩
        case measure => simp [intOf]; omega
      · rw [decide_eq_false hla] at he
        subst he
        have g1 : decide ((i : Int) < (L : Int) - 1) = false := by simp; omega
        go_wp2
        go_roundw
        case rel => exact ⟨i + 1, by omega, by go_num, HO3.out, HW3.out, hsz3⟩
        case measure => simp [intOf]; omega
    · obtain rfl : i = L := by omega
      have HBB := Lib.hid hB
      clear hO hD hR hB
      go_wp2_with fail
      refine (HA.out _).mono ?_
      rintro e w3 ⟨rfl, hb3⟩
      go_wp2
      go_ret
      exact ⟨rfl, bt_ HBB.out hb3⟩

set_option maxRecDepth 100000 in
theorem sectionWalks_lifted (os : Os) (started : os.Started) (H : Type) (enc : TypeId × Value → H) :
    ReturnsInHanded {} Try.checked os 11 .any (Rows.sectionWalksSpec.pre6 enc Try.prog Try.f11 [] false) (Rows.sectionWalksSpec.post enc Try.prog Try.f11 false true false false) := by
  refine returnsInHanded_of_change_sized (C := Try.checked) own started (by kernel_rfl) Try.func11
    (ChangeSpec.witness6 (enc := enc) (C := Try.checked) false ⟨#[], #[.agg #[.int .i64 0, .slice none 0 0, .slice none 0 0]], []⟩ 8 (by kernel_rfl) (by kernel_rfl) (by kernel_rfl) (by kernel_rfl)) ?_
  intro W base args ds gs before hval0 hW _ hsz0 _
  have hval : ∀ (j : Nat) t v, Try.f11.params[j]? = some t → args[j]? = some v → Value.okWide Try.prog W .any base t v := hval0
  have hsz := hsz0
  have hW' := hW
  obtain ⟨p, q, hA0, hV, rfl, hfz, hnd⟩ := hW
  have hA : DataW.TrodAll enc Try.prog W 0 (fun _ => true) true Try.f11.params.toList args.toList ds p := hA0
  rw [Try.params11] at hA hval
  obtain ⟨v0, vs0, d0, ds0, p0, q0, hargs, rfl, rfl, h0, r0⟩ := trodAll_cons hA
  obtain ⟨rfl, rfl, rfl⟩ := trodAll_nil r0
  obtain rfl : args = #[v0] := by cases args; simp_all
  obtain ⟨rfl, rfl⟩ := trodVars_none hV
  obtain ⟨s0, k0⟩ := open_desc (hval 0 31 v0 rfl rfl) h0
  clear hA0 hval0
  simp only [List.append_nil] at hW'
  have hlt : ∀ x ∈ (p0), x.block < W.heap.size := by
    intro x hx; exact hW'.lt x hx
  refine (sectionWalks_walk W _ s0 k0 ).mono fun e W' ⟨he, hb⟩ => ?_
  subst he
  exact ⟨_, rfl, post_mem hW' (fun _ _ _ => (trodAll_cons_mk (shut_bool Try.underlying4 _) trodAll_mk0)) (fun sp hsp => (trodAll_mk1 (WideElems.Trod_stays (by kernel_rfl) (by kernel_rfl) (of_decide_eq_true (by kernel_rfl)) h0 (fun x hx => hb.same (hlt x (by simp [hx]))) (fun x hx => hsp x (by simp [hx]))))) (fun _ => rfl) hb (ok_one (by kernel_rfl) rfl (okWide_bool_mk Try.underlying4 _))⟩

theorem sectionWalks_holds : Rows.SectionWalksSaid :=
  OpenClaim.holds_of_wide 11 Try.f11 rfl rfl rfl rfl rfl rfl rfl ⟨rfl, rfl, rfl, rfl, rfl⟩ rfl rfl rfl rfl rfl (by kernel_rfl) Try.func11 (by kernel_rfl)
    (of_decide_eq_true (by kernel_rfl)) (by unfold Func.isWrapper; first | (rw [if_pos (by decide +kernel)]; kernel_rfl) | (rw [if_neg (by decide +kernel)]; exact ⟨rfl, rfl⟩))
    (fun os started H enc _ => sectionWalks_lifted os started H enc)
#print axioms sectionWalks_holds
end Go.Proofs.Ytkgdnlknnjiglaa

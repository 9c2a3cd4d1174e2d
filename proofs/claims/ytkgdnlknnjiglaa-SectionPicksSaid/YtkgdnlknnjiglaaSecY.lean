/- Contracts of Places and Size of both sides. -/
import Derived.Test.YtkgdnlknnjiglaaSecX
namespace Go.Proofs.Ytkgdnlknnjiglaa
open Go.RowKit

/-- A call ends with a list and an error. -/
def LPost (l : List Int) (err : Int) (w : World) (e : Ending) (w' : World) : Prop := ∃ v, e = .returned (.tuple #[v, .int .i64 err]) ∧ RI w' v l ∧ Below w.heap.size w w'
def plL (d : DS) : List Int := if vldB d = true then plcW d else []
def plE (d : DS) : Int := if vldB d = true then 0 else 2
set_option maxRecDepth 100000 in
set_option maxHeartbeats 4000000 in
theorem rPlaces_c (v : Value) (d : DS) (w : World) (h : RD w v d) : Calls Try.prog 18 #[v] w (LPost (plL d) (plE d) w) := by
  have h0 := h
  obtain ⟨ve, vt, rfl, he, ht, hfb⟩ := h
  obtain ⟨o1, z1⟩ : ∃ o : Obj, o = .cells #[.int .i64 d.b, ve, vt] 31 := ⟨_, rfl⟩
  have HB := Lib.hid (box_below w o1)
  have HD := Lib.hid (Has.new w [.int .i64 d.b, ve, vt] 31)
  have HV := Lib.hid (rValid_c _ d _ (h0.keep HB.out))
  have HR := Lib.hid (h0.keep HB.out)
  rw [z1] at HB HV HR
  clear h0 z1 o1 he ht hfb
  by_cases hv : vldB d = true
  · rw [hv] at HV
    have HO := Lib.hid (vld_ok hv)
    have HL := Lib.hid (show plL d = plcW d by unfold plL; rw [if_pos hv])
    have HE := Lib.hid (show plE d = 0 by unfold plE; rw [if_pos hv])
    clear hv
    go_enter Try.func18, Try.ntmps18
    go_wp2_with fail
    refine HV.out.mono ?_
    rintro e w1 ⟨rfl, hb⟩
    obtain ⟨g1, g2, g3⟩ := (HD.out.keep hb).c3
    have HB1 := Lib.hid (bt_ HB.out hb)
    have HP := Lib.hid (rplaces_c _ d _ (HR.out.keep hb) HO.out)
    clear hb
    go_wp2_with fail
    refine HP.out.mono ?_
    rintro e w2 ⟨v', rfl, hO, hb2⟩
    have HB2 := Lib.hid (bt_ HB1.out hb2)
    have HX := Lib.hid hO.ri
    clear hO hb2
    go_wp2
    go_ret2
    rw [HL.out, HE.out]
    exact ⟨v', rfl, HX.out, HB2.out⟩
  · have hv' : vldB d = false := by simpa using hv
    rw [hv'] at HV
    have HL := Lib.hid (show plL d = [] by unfold plL; rw [if_neg hv])
    have HE := Lib.hid (show plE d = 2 by unfold plE; rw [if_neg hv])
    clear hv hv'
    go_enter Try.func18, Try.ntmps18
    go_wp2_with fail
    refine HV.out.mono ?_
    rintro e w1 ⟨rfl, hb⟩
    have HB1 := Lib.hid (bt_ HB.out hb)
    clear hb
    go_wp2
    go_ret2
    rw [HL.out, HE.out]
    exact ⟨_, rfl, RI.nil _ _, HB1.out⟩
set_option maxRecDepth 100000 in
set_option maxHeartbeats 4000000 in
theorem Places_c (v : Value) (d : DS) (w : World) (h : RD w v d) : Calls Try.prog 17 #[v] w (LPost (plL d) (plE d) w) := by
  have h0 := h
  obtain ⟨ve, vt, rfl, he, ht, hfb⟩ := h
  obtain ⟨o1, z1⟩ : ∃ o : Obj, o = .cells #[.int .i64 d.b, ve, vt] 31 := ⟨_, rfl⟩
  have HB := Lib.hid (box_below w o1)
  have HD := Lib.hid (Has.new w [.int .i64 d.b, ve, vt] 31)
  have HV := Lib.hid (Size_c _ d _ (h0.keep HB.out))
  have HR := Lib.hid (h0.keep HB.out); have HEX := Lib.hid (he.keep HB.out)
  rw [z1] at HB HV HR HEX
  clear h0 z1 o1 he ht hfb
  by_cases hv : vldB d = true
  · rw [szR_yes hv] at HV
    have HO := Lib.hid (vld_ok hv)
    have HL := Lib.hid (show plL d = plcW d by unfold plL; rw [if_pos hv])
    have HE := Lib.hid (show plE d = 0 by unfold plE; rw [if_pos hv])
    clear hv
    obtain ⟨n, hn⟩ : ∃ n : Nat, n = (pr d.ex).toNat := ⟨_, rfl⟩
    have hz := (pr_small (okE_iff.1 HO.out.1).1 (okE_iff.1 HO.out.1).2.1).1
    have hz2 := (okE_iff.1 HO.out.1).2.2
    have hnz : pr d.ex = (n : Int) := by omega
    rw [hnz] at HV
    have HG := Lib.hid (fun (w1 : World) (hb : Below (World.heap _).size _ w1) => gather_c _ _ d d.ex n w1 (HR.out.keep hb) (HEX.out.keep hb) HO.out.2.1.symm HO.out.2.2.1 (okE_iff.1 HO.out.1).2.1 (okE_iff.1 HO.out.1).1 (by omega) (fun h => pr_ne (okE_iff.1 HO.out.1).2.1 (by omega)))
    have HGE := Lib.hid (show gatL d d.ex n = plcW d by rw [hn]; exact gat_eq HO.out)
    rw [HGE.out] at HG
    clear hn hz hz2 hnz
    go_enter Try.func17, Try.ntmps17
    go_wp2_with fail
    refine HV.out.mono ?_
    rintro e w1 ⟨rfl, hb⟩
    obtain ⟨g1, g2, g3⟩ := (HD.out.keep hb).c3
    have HB1 := Lib.hid (bt_ HB.out hb)
    have HP := Lib.hid (HG.out _ hb)
    clear hb
    go_wp2_with fail
    refine HP.out.mono ?_
    rintro e w2 ⟨⟨v', rfl, hO⟩, hb2⟩
    have HB2 := Lib.hid (bt_ HB1.out hb2)
    have HX := Lib.hid hO
    clear hO hb2
    go_wp2
    go_ret2
    rw [HL.out, HE.out]
    exact ⟨v', rfl, HX.out, HB2.out⟩
  · have hv' : vldB d = false := by simpa using hv
    rw [szR_no hv'] at HV
    have HL := Lib.hid (show plL d = [] by unfold plL; rw [if_neg hv])
    have HE := Lib.hid (show plE d = 2 by unfold plE; rw [if_neg hv])
    clear hv hv'
    go_enter Try.func17, Try.ntmps17
    go_wp2_with fail
    refine HV.out.mono ?_
    rintro e w1 ⟨rfl, hb⟩
    have HB1 := Lib.hid (bt_ HB.out hb)
    clear hb
    go_wp2
    go_ret2
    rw [HL.out, HE.out]
    exact ⟨_, rfl, RI.nil _ _, HB1.out⟩
set_option maxHeartbeats 4000000 in
theorem rSize_c (v : Value) (d : DS) (w : World) (h : RD w v d) : Calls Try.prog 20 #[v] w fun e w' => e = .returned (szR d) ∧ Below w.heap.size w w' := by
  have h0 := h
  obtain ⟨ve, vt, rfl, he, ht, hfb⟩ := h
  obtain ⟨o1, z1⟩ : ∃ o : Obj, o = .cells #[.int .i64 d.b, ve, vt] 31 := ⟨_, rfl⟩
  have HB := Lib.hid (box_below w o1)
  have HD := Lib.hid (Has.new w [.int .i64 d.b, ve, vt] 31)
  have HV := Lib.hid (rValid_c _ d _ (h0.keep HB.out))
  have HEX := Lib.hid (he.keep HB.out)
  rw [z1] at HB HV HEX
  clear h0 z1 o1 he ht hfb
  by_cases hv : vldB d = true
  · rw [hv] at HV
    have HO := Lib.hid (vld_ok hv)
    rw [szR_yes hv]
    clear hv
    go_enter Try.func20, Try.ntmps20
    go_wp2_with fail
    refine HV.out.mono ?_
    rintro e w1 ⟨rfl, hb⟩
    obtain ⟨g1, g2, g3⟩ := (HD.out.keep hb).c3
    have HB1 := Lib.hid (bt_ HB.out hb)
    have HP := Lib.hid (rsize_c _ _ _ (HEX.out.keep hb))
    rw [show szE d.ex = pr d.ex by unfold szE; rw [if_pos HO.out.1]] at HP
    clear hb
    go_wp2_with fail
    refine HP.out.mono ?_
    rintro e w2 ⟨rfl, rfl⟩
    go_wp2
    go_ret2
    exact ⟨rfl, HB1.out⟩
  · have hv' : vldB d = false := by simpa using hv
    rw [hv'] at HV
    rw [szR_no hv']
    clear hv hv'
    go_enter Try.func20, Try.ntmps20
    go_wp2_with fail
    refine HV.out.mono ?_
    rintro e w1 ⟨rfl, hb⟩
    have HB1 := Lib.hid (bt_ HB.out hb)
    clear hb
    go_wp2
    go_ret2
    exact ⟨rfl, HB1.out⟩
end Go.Proofs.Ytkgdnlknnjiglaa

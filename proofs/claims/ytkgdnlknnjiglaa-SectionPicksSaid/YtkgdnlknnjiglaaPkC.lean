/- Contract of gather with the closure of Pick. -/
import Derived.Test.YtkgdnlknnjiglaaPkB
namespace Go.Proofs.Ytkgdnlknnjiglaa
open Go.RowKit

/-- The subscripts that stand at these indices of the lists. -/
def sgL (Ls : List (List Int)) (a : List Int) : List Int := a.mapIdx fun j x => (Ls.getD j []).getD x.toNat 0
theorem sgL_at {Ls : List (List Int)} {a : List Int} {j : Nat} {x : Int} (h : a[j]? = some x) : (sgL Ls a)[j]? = some ((Ls.getD j []).getD x.toNat 0) := by
  unfold sgL; rw [List.getElem?_mapIdx, h]; rfl
/-- What gather lists. -/
def gatP (Ls : List (List Int)) (d : DS) (C : List Int) (n : Nat) : List Int := (List.range n).map fun k => gv d (sgL Ls (atI C k)) C.length

def PGRel (Ls : List (List Int)) (d : DS) (C : List Int) (n : Nat) (ve vt : Value) (w : World) (x : Value) (wr : World) : Prop :=
  ∃ k : Nat, k ≤ n ∧ x = .int .i64 (k : Int) ∧ Has wr (w.heap.size + 1) (icells (orow (fun k => gv d (sgL Ls (atI C k)) C.length) n k)) ∧ OI wr w.heap.size (.slice (some ⟨w.heap.size + 1 + 1, 0, none⟩) C.length C.length) (atI C k) ∧
    Has wr w.heap.size [.int .i64 d.b, ve, vt] ∧ Below w.heap.size w wr ∧ w.heap.size + 2 < wr.heap.size
def PHRel (Ls : List (List Int)) (d : DS) (C : List Int) (n k : Nat) (ve vt : Value) (w : World) (x : Value) (wr : World) : Prop :=
  ∃ j : Nat, j ≤ C.length ∧ x = .int .i64 (j : Int) ∧ Has wr (w.heap.size + 1) (icells (prow (fun k => gv d (sgL Ls (atI C k)) C.length) n k (gv d (sgL Ls (atI C k)) j))) ∧ OI wr w.heap.size (.slice (some ⟨w.heap.size + 1 + 1, 0, none⟩) C.length C.length) (atI C k) ∧
    Has wr w.heap.size [.int .i64 d.b, ve, vt] ∧ Below w.heap.size w wr ∧ w.heap.size + 2 < wr.heap.size
set_option maxRecDepth 100000 in
set_option maxHeartbeats 4000000 in
theorem gatherP_c (vd vc vL : Value) (L : Nat) (Ls : List (List Int)) (d : DS) (C : List Int) (n : Nat) (w : World) (h : RD w vd d) (hc : RI w vc C) (hl : C.length = d.st.length) (hst : d.st.all nearB = true)
    (hCL : C = Ls.map fun l => (l.length : Int)) (hin : ∀ (j : Nat) (l : List Int) (x : Int), Ls[j]? = some l → x ∈ l → 0 ≤ x ∧ x ≤ 4000) (hC3 : C.length ≤ 3) (hn : n ≤ 4000) (hp : 0 < n → ∀ e ∈ C, 1 ≤ e)
    (hLc : w.cell? ⟨L, 0, none⟩ = some vL) (hLL : RL w vL Ls) :
    Calls Try.prog 53 #[vd, .int .i64 (n : Int), vc, .func (.func 61) #[] #[.pointer (some ⟨L, 0, none⟩)]] w fun e w' => (∃ v', e = .returned v' ∧ RI w' v' (gatP Ls d C n)) ∧ Below w.heap.size w w' := by
  obtain ⟨ve, vt, rfl, he, ht, hfb⟩ := h
  obtain ⟨E, ce, rfl⟩ := he.slice
  obtain ⟨T, ct, rfl⟩ := ht.slice
  obtain ⟨K, ck', rfl⟩ := hc.slice
  have hme := he.len; have hmt := ht.len
  have HT := Lib.hid ht; have HC := Lib.hid hc; have HL := Lib.hid hl; have HST := Lib.hid hst; have HCL := Lib.hid hCL; have HIN := Lib.hid hin; have HLC := Lib.hid hLc; have HLL := Lib.hid hLL; have HP := Lib.hid hp; have HFB := Lib.hid hfb
  have mk1 := make29 n (by omega)
  have mk2 := make29 C.length (by omega)
  obtain ⟨D, hD⟩ : ∃ D : Obj, D = .cells #[.int .i64 d.b, .slice E d.ex.length ce, .slice T d.st.length ct] 31 := ⟨_, rfl⟩
  clear he ht hc hst hCL hin hLc hLL hp hfb hl
  go_enter Try.func53, Try.ntmps53
  go_wp2_with fail
  go_loopw [21] (PGRel Ls d C n (.slice E d.ex.length ce) (.slice T d.st.length ct) w) (fun x _ => n - (intOf x).toNat)
  case atStart =>
    rw [← hD]
    have hb0 : Below w.heap.size w (((w.alloc D).alloc (.cells (icells (zeros n)).toArray 3)).alloc (.cells (icells (zeros C.length)).toArray 3)) :=
      ((box_below w D).alloc (by simp) _).alloc (by simp; omega) _
    refine ⟨0, Nat.zero_le _, rfl, ?_, ?_, ?_, hb0, by simp⟩
    · have h1 := (Has.new (w.alloc D) (icells (zeros n)) 3).alloc (.cells (icells (zeros C.length)).toArray 3)
      simpa [orow] using h1
    · have h1 := Has.new ((w.alloc D).alloc (.cells (icells (zeros n)).toArray 3)) (icells (zeros C.length)) 3
      refine ⟨_, C.length, by simp [atI, zeros], by simp [atI, zeros]; omega, ?_, fun _ => ⟨w.heap.size + 1 + 1, rfl, by omega, ?_⟩⟩
      · intro x hx
        unfold atI zeros at hx
        rw [(List.mem_replicate.1 hx).2]; exact fit0
      · simpa [atI] using h1
    · rw [hD]
      exact ((Has.new w [.int .i64 d.b, .slice E d.ex.length ce, .slice T d.st.length ct] 31).alloc _).alloc _
  case round =>
    obtain ⟨k, hk, rfl, hPl, hat, hDb, hB, hsz⟩ := hrel
    have hk0 : (0 : Int) ≤ (k : Int) := by omega
    by_cases hlt : k < n
    · obtain ⟨y1, y2, y3⟩ := hDb.c3
      obtain ⟨p1, p2⟩ := hPl k _ (icells_at (List.getElem?_eq_getElem (by rw [orow_len _ (by omega)]; exact hlt)))
      have hP2 := hPl.set (i := k) (v := .int .i64 d.b)
      rw [← icells_set, orow_set _ hlt] at hP2
      have HPP := Lib.hid hP2
      have HAT := Lib.hid (hat.kb (KB.set (a := wr) (S := fun b => b = w.heap.size + 1) (b := w.heap.size + 1) (i := k) (.int .i64 d.b) rfl) (fun g hg e => by
        have : w.heap.size + 1 + 1 = g := by simpa [Value.ownBlock] using hg
        omega))
      have HDD := Lib.hid (hDb.far (m := w.heap.size + 1) (i := k) (v := .int .i64 d.b) (by omega))
      have HBB := Lib.hid (hB.st (b := w.heap.size + 1) (i := k) (u := .int .i64 d.b) (by omega))
      clear hPl hat hDb hB hP2
      go_wp2_with fail
      go_loopw [31] (PHRel Ls d C n k (.slice E d.ex.length ce) (.slice T d.st.length ct) w) (fun x _ => C.length - (intOf x).toNat)
      case atStart => exact ⟨0, Nat.zero_le _, rfl, HPP.out, HAT.out, HDD.out, HBB.out, by simp [World.setCell]; omega⟩
      case round =>
        obtain ⟨j, hj, rfl, hPl, hat, hDb, hB, hsz⟩ := hrel
        have hj0 : (0 : Int) ≤ (j : Int) := by omega
        by_cases hlt2 : j < C.length
        · obtain ⟨b3, o3, c3, i, e3, hi, m3⟩ := hat.ri.at_ (k := j) (by rw [atI_len]; exact hlt2)
          obtain ⟨⟨rfl, rfl⟩, -⟩ : (w.heap.size + 1 + 1 = b3 ∧ 0 = o3) ∧ _ := by simpa using e3
          rw [Nat.zero_add] at m3
          obtain ⟨b5, o5, c5, tv, e5, htv, m5⟩ := (HT.out.keep hB).at_ (k := j) (by have := HL.out; omega)
          obtain ⟨rfl, rfl⟩ : T = some ⟨b5, o5, none⟩ ∧ ct = c5 := by simpa using e5
          have hlT : j < d.st.length := by have := HL.out; omega
          have htvb := near_iff.1 (List.all_eq_true.1 HST.out tv (List.mem_of_getElem? htv))
          obtain ⟨c, hcj⟩ : ∃ c, C[j]? = some c := ⟨_, List.getElem?_eq_getElem hlt2⟩
          have hib := sub_iff.1 ((inR_iff.1 (atI_in (HP.out (by omega)) k)).2 j i c hi hcj)
          obtain ⟨l, hLj⟩ : ∃ l, Ls[j]? = some l := by
            have := hcj
            rw [HCL.out, List.getElem?_map] at this
            cases hl0 : Ls[j]? with
            | none => rw [hl0] at this; cases this
            | some l => exact ⟨l, rfl⟩
          have hcl : c = (l.length : Int) := by
            have := hcj
            rw [HCL.out, List.getElem?_map, hLj] at this
            simpa using this.symm
          obtain ⟨iN, rfl⟩ := Int.eq_ofNat_of_zero_le hib.1
          have hiN : iN < l.length := by omega
          obtain ⟨x0, hx0⟩ : ∃ x, l[iN]? = some x := ⟨_, List.getElem?_eq_getElem hiN⟩
          have hxb := HIN.out j l x0 hLj (List.mem_of_getElem? hx0)
          have him := mul_near (x := x0) (y := tv) hxb.1 hxb.2 (by omega) (by omega)
          have hsg : (sgL Ls (atI C k))[j]? = some x0 := by
            rw [sgL_at hi, List.getD_eq_getElem?_getD (l := Ls), hLj]
            show some (l.getD ((iN : Int).toNat) 0) = some x0
            rw [Int.toNat_natCast, List.getD_eq_getElem?_getD, hx0]; rfl
          have HPK := Lib.hid (fun (wx : World) (hb : Below w.heap.size w wx) => pk2_c L vL Ls j iN l x0 wx (ck hb HLC.out) (HLL.out.keep hb) hLj hx0)
          obtain ⟨y, hy⟩ : ∃ y, y = gv d (sgL Ls (atI C k)) j := ⟨_, rfl⟩
          have hfy : Fit y := by rw [hy]; exact gv_fit HFB.out _ _
          rw [← hy] at hPl
          obtain ⟨s1, hs1⟩ : ∃ s1, s1 = w64 (y + x0 * tv) := ⟨_, rfl⟩
          have HG := Lib.hid (show gv d (sgL Ls (atI C k)) (j + 1) = s1 by rw [gv_succ hsg htv, hs1, hy])
          have hwi : IntKind.i64.wrap (x0 * tv) = x0 * tv := IntWalk.i64_in _ (by omega)
          have hw : IntKind.i64.wrap (y + x0 * tv) = s1 := hs1.symm
          obtain ⟨y1, y2, y3⟩ := hDb.c3
          obtain ⟨p1, p2⟩ := hPl k _ (icells_at (prow_at _ _))
          have hP2 := hPl.set (i := k) (v := .int .i64 s1)
          rw [← icells_set, prow_set] at hP2
          have HPP := Lib.hid hP2
          have HAT := Lib.hid (hat.kb (KB.set (a := wr) (S := fun b => b = w.heap.size + 1) (b := w.heap.size + 1) (i := k) (.int .i64 s1) rfl) (fun g hg e => by
            have : w.heap.size + 1 + 1 = g := by simpa [Value.ownBlock] using hg
            omega))
          have HDD := Lib.hid (hDb.far (m := w.heap.size + 1) (i := k) (v := .int .i64 s1) (by omega))
          have HBB := Lib.hid (hB.st (b := w.heap.size + 1) (i := k) (u := .int .i64 s1) (by omega))
          have HB9 := Lib.hid hB
          clear hPl hat hDb hB hP2 e3 e5 hi htv hcj hib hs1 hy hLj hcl hx0 hxb hsg
          go_wp2_with fail
          go_still_tail 16, (by kernel_rfl)
          still_call ((HPK.out _ (by first | exact HB9.out | exact HB9.out.drew)).mono fun e w' h => ⟨h.1, h.2.symm⟩)
          repeat still_step
          refine wpStill_nil ?_
          go_wp2

          go_roundw
          case rel => exact ⟨j + 1, by omega, by go_num, by rw [HG.out]; exact HPP.out, HAT.out, HDD.out, HBB.out.drew, by simp [World.setCell]; omega⟩
          case measure => simp [intOf]; omega
        · obtain rfl : j = C.length := by omega
          rw [prow_done (fun k => gv d (sgL Ls (atI C k)) C.length)] at hPl
          have HN := Lib.hid (Next_c w wr (.slice K C.length ck') _ C (atI C k) HC.out hB hat (fun A n c e => by cases e; omega))
          have HPP := Lib.hid hPl; have HDD := Lib.hid hDb; have HBB := Lib.hid hB
          have hlen : (atI C k).length = C.length := atI_len C k
          have HGE := Lib.hid (show ∀ g, (Value.slice (some ⟨w.heap.size + 1 + 1, 0, none⟩) C.length C.length).ownBlock = some g → g = w.heap.size + 1 + 1 from fun g hg => by
            have : w.heap.size + 1 + 1 = g := by simpa [Value.ownBlock] using hg
            omega)
          clear hPl hat hDb hB hlen
          go_wp2_with fail
          refine HN.out.mono ?_
          rintro e w3 ⟨rfl, ho, hk3⟩
          have hPl := HPP.out.kb hk3 (fun e => by have := HGE.out _ e; omega)
          have hDb := HDD.out.kb hk3 (fun e => by have := HGE.out _ e; omega)
          have hB := hk3.below HBB.out (fun i hi => by have := HGE.out _ hi; omega) HBB.out.size
          have hs3 := hk3.size
          have HPP := Lib.hid hPl; have HDD := Lib.hid hDb; have HB3 := Lib.hid hB; have HO3 := Lib.hid ho
          clear hPl hDb hB ho hk3
          go_wp2
          go_roundw
          case rel => exact ⟨k + 1, by omega, by go_num, HPP.out, HO3.out, HDD.out, HB3.out, by omega⟩
          case measure => simp [intOf]; omega
    · obtain rfl : k = n := by omega
      rw [orow_all] at hPl
      have HPP := Lib.hid hPl; have HBB := Lib.hid hB
      clear hPl hat hDb hB
      go_wp2
      go_ret
      refine ⟨⟨_, rfl, some ⟨w.heap.size + 1, 0, none⟩, k, by simp [gatP], by simp [gatP]; omega, ?_, fun _ => ⟨w.heap.size + 1, 0, rfl, fun i x hx => ?_⟩⟩, HBB.out⟩
      · intro x hx
        obtain ⟨i, _, rfl⟩ := List.mem_map.1 hx
        exact gv_fit HFB.out _ _
      · rw [Nat.zero_add]; exact (HPP.out i _ (icells_at hx)).1
end Go.Proofs.Ytkgdnlknnjiglaa

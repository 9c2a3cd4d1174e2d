/- Contracts of Size and Whole. -/
import Derived.Test.YtkgdnlknnjiglaaSecF
namespace Go.Proofs.Ytkgdnlknnjiglaa
open Go.RowKit

def szR (d : DS) : Value := .tuple #[.int .i64 (if vldB d = true then pr d.ex else 0), .int .i64 (if vldB d = true then 0 else 2)]
theorem szR_no {d : DS} (h : vldB d = false) : szR d = .tuple #[.int .i64 0, .int .i64 2] := by unfold szR; rw [h]; rfl
theorem szR_yes {d : DS} (h : vldB d = true) : szR d = .tuple #[.int .i64 (pr d.ex), .int .i64 0] := by unfold szR; rw [h]; rfl
theorem box_below (w : World) (o : Obj) : Below w.heap.size w (w.alloc o) := (Below.refl _ _).alloc (Nat.le_refl _) o
set_option maxHeartbeats 1000000 in
theorem Size_c (v : Value) (d : DS) (w : World) (h : RD w v d) : Calls Try.prog 19 #[v] w fun e w' => e = .returned (szR d) ∧ Below w.heap.size w w' := by
  have h0 := h
  obtain ⟨ve, vs, rfl, he, hs, hfb⟩ := h
  obtain ⟨o1, z1⟩ : ∃ o : Obj, o = .cells #[.int .i64 d.b, ve, vs] 31 := ⟨_, rfl⟩
  have HB := Lib.hid (box_below w o1)
  have HV := Lib.hid (Valid_c _ d _ (h0.keep HB.out))
  have HE := Lib.hid (he.keep HB.out)
  rw [z1] at HB HV HE
  clear h0 he hs z1 o1
  by_cases hv : vldB d = true
  · rw [szR_yes hv]
    rw [hv] at HV
    have HO := Lib.hid (vld_ok hv).1
    clear hv
    go_enter Try.func19, Try.ntmps19
    go_wp2_with fail
    refine HV.out.mono ?_
    rintro e w1 ⟨rfl, hb⟩
    have hb := hb.below
    obtain ⟨g1, g2, g3⟩ := ((Has.new w [.int .i64 d.b, ve, vs] 31).keep hb).c3
    have HB2 := Lib.hid (HB.out.trans (hb.mono HB.out.size))
    have HP := Lib.hid (product_c ve d.ex _ (HE.out.keep hb))
    rw [prodR_yes HO.out] at HP
    clear hb
    go_wp2_with fail
    refine HP.out.mono ?_
    rintro e w2 ⟨rfl, rfl⟩
    go_wp2
    go_ret2
    exact ⟨rfl, HB2.out⟩
  · have hv' : vldB d = false := by simpa using hv
    rw [szR_no hv']
    rw [hv'] at HV
    clear hv hv'
    go_enter Try.func19, Try.ntmps19
    go_wp2_with fail
    refine HV.out.mono ?_
    rintro e w1 ⟨rfl, hb⟩
    have HB2 := Lib.hid (HB.out.trans (hb.below.mono HB.out.size))
    clear hb
    go_wp2
    go_ret2
    exact ⟨rfl, HB2.out⟩

/-- The strides of an array that lies from 0 on, as far as k. -/
def wst (ex : List Int) (k : Nat) : List Int := (List.range k).map fun j => pr (ex.take j)
theorem wst_succ (ex : List Int) (k : Nat) : wst ex (k + 1) = wst ex k ++ [pr (ex.take k)] := by unfold wst; rw [List.range_succ, List.map_append]; rfl
theorem wst_len (ex : List Int) (k : Nat) : (wst ex k).length = k := by simp [wst]
def whl (ex : List Int) : DS := if okE ex = true then ⟨0, ex, wst ex ex.length⟩ else ⟨0, [], []⟩
def whE (ex : List Int) : Int := if okE ex = true then 0 else 2
/-- A call ends with a descriptor and an error. -/
def DPost (d : DS) (err : Int) (w : World) (e : Ending) (w' : World) : Prop := ∃ v, e = .returned (.tuple #[v, .int .i64 err]) ∧ RD w' v d ∧ Below w.heap.size w w'
theorem resD24 (tm : Array Value) (R : Nat) (a b c : Value) (n : Int) (w : World) (hp : tm[2]?.getD undef = .pointer (some ⟨R, 0, none⟩)) (h5 : tm[3]?.getD undef = .int .i64 n) (h : Has w R [a, b, c]) :
    (results Try.f24 tm).run Try.prog w = .ok (.tuple #[.agg #[a, b, c], .int .i64 n]) w := by
  obtain ⟨h0, h1, h2⟩ := h.c3
  simp [results, Try.results24, go_sem, hp, h5, h0, h1, h2]
theorem resD25 (tm : Array Value) (R : Nat) (a b c : Value) (n : Int) (w : World) (hp : tm[2]?.getD undef = .pointer (some ⟨R, 0, none⟩)) (h5 : tm[3]?.getD undef = .int .i64 n) (h : Has w R [a, b, c]) :
    (results Try.f25 tm).run Try.prog w = .ok (.tuple #[.agg #[a, b, c], .int .i64 n]) w := by
  obtain ⟨h0, h1, h2⟩ := h.c3
  simp [results, Try.results25, go_sem, hp, h5, h0, h1, h2]
theorem Has.set3 {w : World} {n : Nat} {p q r : Value} (a b c : Value) (h : Has w n [p, q, r]) : Has (((w.setCell ⟨n, 0, none⟩ a).setCell ⟨n, 1, none⟩ b).setCell ⟨n, 2, none⟩ c) n [a, b, c] := ((h.set).set).set
theorem fit0 : Fit 0 := by unfold Fit; omega
theorem RD.zero (w : World) : RD w (.agg #[.int .i64 0, .slice none 0 0, .slice none 0 0]) ⟨0, [], []⟩ := ⟨_, _, rfl, RI.nil _ _, RI.nil _ _, fit0⟩
theorem Has.grown {w w' : World} {n : Nat} {xs : List Value} {row : Option Nat} (h : Has w n xs) (hg : w.grownBy w' row) (hn : ∀ k, row = some k → k ≠ n) : Has w' n xs := fun i v hv => by
  obtain ⟨h1, h2⟩ := h i v hv
  have hl := World.block_lt_of_cell? w _ h1
  have hb := hg.block n hl (fun e => hn n e.symm rfl)
  exact ⟨by rw [World.cell?_of_block (a := ⟨n, i, none⟩) hb]; exact h1, by rw [World.frozen?_of_block (a := ⟨n, i, none⟩) hb]; exact h2⟩
theorem pr_take_bd {l : List Int} (h : okE l = true) (k : Nat) : 0 ≤ pr (l.take k) ∧ pr (l.take k) ≤ 64000000000 :=
  pr_small (by have := (okE_iff.1 h).1; rw [List.length_take]; omega) fun e he => (okE_iff.1 h).2.1 e (mem_take he)
theorem RI.slice {w : World} {v : Value} {l : List Int} (h : RI w v l) : ∃ A c, v = .slice A l.length c := by
  obtain ⟨A, c, rfl, _⟩ := h; exact ⟨A, c, rfl⟩
theorem OW.slice {w : World} {B n : Nat} {v : Value} {l : List Int} (h : OW w B v l) (hn : l.length = n) : ∃ A c, v = .slice A n c := by
  subst hn; exact h.ri.slice
/-- The relation at the head of Whole's loop. -/
def WRel (ex : List Int) (nb R : Nat) (ve z : Value) (w0 : World) (n x : Value) (wr : World) : Prop :=
  ∃ (k : Nat) (q : Int) (s : Value), k ≤ ex.length ∧ x = .int .i64 (k : Int) ∧ n = .int .i64 q ∧ q = pr (ex.take k) ∧ Has wr nb [.int .i64 0, ve, s] ∧ OW wr (nb + 1) s (wst ex k) ∧ Below nb w0 wr ∧ nb < wr.heap.size ∧ Has wr R [.int .i64 0, z, z]
set_option maxRecDepth 100000 in
set_option maxHeartbeats 4000000 in
theorem Whole_c (v : Value) (l : List Int) (w : World) (h : RI w v l) : Calls Try.prog 24 #[v] w (DPost (whl l) (whE l) w) := by
  obtain ⟨o1, z1⟩ : ∃ o : Obj, o = .cells #[.int .i64 0, .slice none 0 0, .slice none 0 0] 31 := ⟨_, rfl⟩
  have HB := Lib.hid (box_below w o1)
  have HP := Lib.hid (product_c v l _ (h.keep HB.out))
  have HR := Lib.hid (h.keep HB.out)
  rw [z1] at HB HP HR
  clear z1 o1
  by_cases ho : okE l = true
  · rw [prodR_yes ho] at HP
    have HD := Lib.hid (show whl l = ⟨0, l, wst l l.length⟩ by unfold whl; rw [if_pos ho])
    have HE := Lib.hid (show whE l = 0 by unfold whE; rw [if_pos ho])
    rw [HE.out]
    have HO := Lib.hid ho
    have hl3 := (okE_iff.1 ho).1
    have HC := Lib.hid (clone_c v l _ HR.out (by omega))
    obtain ⟨A, cap, rfl, hm, -, -⟩ := h
    clear ho
    go_enter Try.func24, Try.ntmps24
    go_wp2_with fail
    refine HP.out.mono ?_
    rintro e w1 ⟨rfl, rfl⟩
    go_wp2_with fail
    refine HC.out.mono ?_
    rintro e w2 ⟨ve, rfl, hve, hb2⟩
    have hR2 := (Has.new w [.int .i64 0, .slice none 0 0, .slice none 0 0] 31).keep hb2
    have HR2 := Lib.hid hR2
    have HB2 := Lib.hid (HB.out.trans (hb2.mono HB.out.size))
    have HVE := Lib.hid (hve.more (B' := w.heap.size + 1) (by simp))
    obtain ⟨A2, c2, rfl⟩ := hve.ri.slice
    have HRI := Lib.hid (HR.out.keep hb2)
    have hsz := HB2.out.size
    have hsz2 : w.heap.size < w2.heap.size := by have := hb2.size; simp at this; omega
    clear hve hb2 hR2
    go_wp2_with fail
    go_loopw [7, 23] (WRel l w2.heap.size w.heap.size (.slice A2 l.length c2) (.slice none 0 0) w2) (fun _ x _ => l.length - (intOf x).toNat)
    case atStart =>
      exact ⟨0, 1, .slice none 0 0, by omega, rfl, rfl, rfl, Has.new w2 [.int .i64 0, .slice A2 l.length c2, .slice none 0 0] 31, OW.nil _ _, box_below _ _, by simp, HR2.out.alloc _⟩
    case round =>
      obtain ⟨k, q, s, hk, rfl, rfl, hq, hH, hO, hB, hn, hR⟩ := hrel
      have hqb := pr_take_bd HO.out k
      rw [← hq] at hqb
      have HQ := Lib.hid hq
      clear hq
      obtain ⟨As, cs, rfl⟩ := hO.ri.slice
      rw [wst_len] at hH hO
      obtain ⟨g1, g2, g3⟩ := hH.c3
      obtain ⟨f1, f2, f3⟩ := hH.f3
      by_cases hlt : k < l.length
      · obtain ⟨b, o, cap', x, e1, hx, hcell⟩ := (HRI.out.keep hB).at_ hlt
        obtain ⟨rfl, rfl⟩ : A = some ⟨b, o, none⟩ ∧ cap = cap' := by simpa using e1
        have hxb := (okE_iff.1 HO.out).2.1 x (List.mem_of_getElem? hx)
        have hmul := mul_small hqb.1 hqb.2 hxb.1 hxb.2
        have HX := Lib.hid hx
        have HH := Lib.hid hH; have HOW := Lib.hid hO; have HBB := Lib.hid hB; have HRR := Lib.hid hR
        clear e1 hx hH hO hB hR
        go_wp2_with (at_builtin; refine wpList_app rfl _ _ rfl (w2.heap.size + 1) _ _ (wst l k) [q] rfl (HOW.out.alloc _) rfl (RI.one wr q (by unfold Fit; omega) 3) (by simp [wst_len]; omega) (by simp; omega) ?_)
        intro v' w' h1 h2 h3
        obtain ⟨A', c', rfl⟩ := h1.slice (n := k + 1) (by simp [wst_len])
        have hne : ∀ g, (Value.slice As k cs).ownBlock = some g → w2.heap.size + 1 ≤ g := fun g hg => (HOW.out.lt g hg).1
        have hH' := (HH.out.alloc (.cells #[.int .i64 q] 3)).grown h2 (fun g hg => by have := hne g hg; omega)
        have HH' := Lib.hid hH'
        have HR' := Lib.hid ((HRR.out.alloc (.cells #[.int .i64 q] 3)).grown h2 (fun g hg => by have := hne g hg; omega))
        have HB' := Lib.hid ((HBB.out.alloc (by omega) (.cells #[.int .i64 q] 3)).grown h2 (by simp; omega) (fun g hg => by have := hne g hg; omega))
        have HS' := Lib.hid (show w2.heap.size < w'.heap.size by have := h2.size; simp at this; omega)
        have HO' := Lib.hid h1
        obtain ⟨k1, k2, k3⟩ := hH'.c3
        obtain ⟨m1, m2, m3⟩ := hH'.f3
        clear h1 h2 h3 hne hH'
        go_wp2
        go_roundw
        case rel => exact ⟨k + 1, q * x, _, by omega, by go_num, rfl, by rw [pr_take HX.out, HQ.out], HH'.out.set (i := 2), by rw [wst_succ, ← HQ.out]; exact HO'.out.far (by omega), HB'.out.st (Nat.le_refl _), by simp [World.setCell]; exact HS'.out, HR'.out.far (by omega)⟩
        case measure => simp [intOf]; omega
      · obtain rfl : k = l.length := by omega
        obtain ⟨r1, r2, r3⟩ := hR.c3
        obtain ⟨p1, p2, p3⟩ := hR.f3
        have HH := Lib.hid hH; have HOW := Lib.hid hO; have HBB := Lib.hid hB; have HRR := Lib.hid hR
        clear hH hO hB hR
        go_wp2
        have hBw := (((HB2.out.trans (HBB.out.mono (by omega))).st (b := w.heap.size) (i := 0) (u := .int .i64 0) (Nat.le_refl _)).st (b := w.heap.size) (i := 1) (u := .slice A2 l.length c2) (Nat.le_refl _)).st (b := w.heap.size) (i := 2) (u := .slice As l.length cs) (Nat.le_refl _)
        refine bodyPost_ret (resD24 _ _ _ _ _ _ _ rfl rfl (HRR.out.set3 _ _ _)) rfl ⟨_, rfl, ?_, hBw⟩
        rw [HD.out]
        refine ⟨_, _, rfl, ?_, ?_, fit0⟩
        · exact ((((HVE.out.keep HBB.out).far (by omega)).far (by omega)).far (by omega)).ri
        · exact (((HOW.out.far (by omega)).far (by omega)).far (by omega)).ri
  · have ho' : okE l = false := by simpa using ho
    rw [prodR_no ho'] at HP
    have HD := Lib.hid (show whl l = ⟨0, [], []⟩ by unfold whl; rw [if_neg ho])
    have HE := Lib.hid (show whE l = 2 by unfold whE; rw [if_neg ho])
    rw [HE.out]
    clear ho ho'
    go_enter Try.func24, Try.ntmps24
    go_wp2_with fail
    refine HP.out.mono ?_
    rintro e w1 ⟨rfl, rfl⟩
    go_wp2
    refine bodyPost_ret (resD24 _ _ _ _ _ _ _ rfl rfl (Has.new w [.int .i64 0, .slice none 0 0, .slice none 0 0] 31)) rfl ⟨_, rfl, ?_, HB.out⟩
    rw [HD.out]
    exact RD.zero _
end Go.Proofs.Ytkgdnlknnjiglaa

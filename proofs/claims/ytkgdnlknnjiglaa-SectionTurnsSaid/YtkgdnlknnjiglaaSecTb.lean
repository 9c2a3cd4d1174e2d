/- Contract of the document's Transpose. -/
import Derived.Test.YtkgdnlknnjiglaaSecQ
import Derived.Test.YtkgdnlknnjiglaaSecTd
import Derived.Deep.RegionHeld3
namespace Go.Proofs.Ytkgdnlknnjiglaa
open Go.RowKit

theorem resD36 (tm : Array Value) (R : Nat) (a b c : Value) (n : Int) (w : World) (hp : tm[2]?.getD undef = .pointer (some ⟨R, 0, none⟩)) (h5 : tm[3]?.getD undef = .int .i64 n) (h : Has w R [a, b, c]) :
    (results Try.f36 tm).run Try.prog w = .ok (.tuple #[.agg #[a, b, c], .int .i64 n]) w := by
  obtain ⟨h0, h1, h2⟩ := h.c3
  simp [results, Try.results36, go_sem, hp, h5, h0, h1, h2]
theorem RI.pair (w : World) (x y : Int) (hx : Fit x) (hy : Fit y) (A : Nat) (c : Nat) (h : Has w A [.int .i64 x, .int .i64 y]) : RI w (.slice (some ⟨A, 0, none⟩) 2 c) [x, y] :=
  ⟨_, c, rfl, by simp, by intro z hz; (simp at hz; rcases hz with rfl | rfl <;> assumption), fun _ => ⟨_, 0, rfl, fun j u hu => by
    rw [Nat.zero_add]
    exact (h j _ (icells_at (l := [x, y]) hu)).1⟩⟩
/-- The box of the argument and four cells of old stand in this world. -/
def SU (w : World) (b v1 v2 : Value) (p q r s : Addr) (x y z t : Value) (w' : World) : Prop :=
  Below w.heap.size w w' ∧ w'.cell? ⟨w.heap.size, 0, none⟩ = some b ∧ w'.cell? ⟨w.heap.size, 1, none⟩ = some v1 ∧ w'.cell? ⟨w.heap.size, 2, none⟩ = some v2 ∧ w'.cell? p = some x ∧ w'.cell? q = some y ∧ w'.cell? r = some z ∧ w'.cell? s = some t
theorem SU.keep {w wx w' : World} {b v1 v2 : Value} {p q r s : Addr} {x y z t : Value} (h : SU w b v1 v2 p q r s x y z t wx) (hb : Below wx.heap.size wx w') : SU w b v1 v2 p q r s x y z t w' :=
  ⟨bt_ h.1 hb, ck hb h.2.1, ck hb h.2.2.1, ck hb h.2.2.2.1, ck hb h.2.2.2.2.1, ck hb h.2.2.2.2.2.1, ck hb h.2.2.2.2.2.2.1, ck hb h.2.2.2.2.2.2.2⟩
theorem SU.alloc {w wx : World} {b v1 v2 : Value} {p q r s : Addr} {x y z t : Value} (h : SU w b v1 v2 p q r s x y z t wx) (o : Obj) : SU w b v1 v2 p q r s x y z t (wx.alloc o) := h.keep (box_below wx o)
theorem SU.drew {w wx : World} {b v1 v2 : Value} {p q r s : Addr} {x y z t : Value} (h : SU w b v1 v2 p q r s x y z t wx) : SU w b v1 v2 p q r s x y z t wx.drew := h.keep (Below.refl _ _).drew
theorem SU.far {w wx : World} {b v1 v2 : Value} {p q r s : Addr} {x y z t : Value} (hp : p.block < w.heap.size + 1) (hq : q.block < w.heap.size + 1) (hr : r.block < w.heap.size + 1) (hs : s.block < w.heap.size + 1) (h : SU w b v1 v2 p q r s x y z t wx) (i : Nat) (u : Value) : SU w b v1 v2 p q r s x y z t (wx.setCell ⟨w.heap.size + 1, i, none⟩ u) := by
  have hc : ∀ (a : Addr) y, a.block < w.heap.size + 1 → wx.cell? a = some y → (wx.setCell ⟨w.heap.size + 1, i, none⟩ u).cell? a = some y := fun a y ha hy =>
    (World.cell?_setCell_other wx ⟨w.heap.size + 1, i, none⟩ a u (by intro e; rw [← e] at ha; simp at ha)).trans hy
  exact ⟨h.1.st (by omega), hc _ _ (by simp) h.2.1, hc _ _ (by simp) h.2.2.1, hc _ _ (by simp) h.2.2.2.1, hc _ _ hp h.2.2.2.2.1, hc _ _ hq h.2.2.2.2.2.1, hc _ _ hr h.2.2.2.2.2.2.1, hc _ _ hs h.2.2.2.2.2.2.2⟩
theorem SU.far3 {w wx : World} {b v1 v2 : Value} {p q r s : Addr} {x y z t : Value} (hp : p.block < w.heap.size + 1) (hq : q.block < w.heap.size + 1) (hr : r.block < w.heap.size + 1) (hs : s.block < w.heap.size + 1) (h : SU w b v1 v2 p q r s x y z t wx) (u1 u2 u3 : Value) :
    SU w b v1 v2 p q r s x y z t (((wx.setCell ⟨w.heap.size + 1, 0, none⟩ u1).setCell ⟨w.heap.size + 1, 1, none⟩ u2).setCell ⟨w.heap.size + 1, 2, none⟩ u3) := (((h.far hp hq hr hs _ _).far hp hq hr hs _ _).far hp hq hr hs _ _)
set_option maxRecDepth 100000 in
set_option maxHeartbeats 4000000 in
theorem rTranspose_c (v : Value) (d : DS) (w : World) (h : RD w v d) : Calls Try.prog 36 #[v] w (DPost (trD d) (trE d) w) := by
  have h0 := h
  obtain ⟨ve, vt, rfl, he, ht, hfb⟩ := h
  have HB := Lib.hid (bt_ (box_below w (.cells #[.int .i64 d.b, ve, vt] 31)) (box_below _ (.cells #[.int .i64 0, .slice none 0 0, .slice none 0 0] 31)))
  have HX := Lib.hid ((Has.new w [.int .i64 d.b, ve, vt] 31).alloc (.cells #[.int .i64 0, .slice none 0 0, .slice none 0 0] 31))
  have HY := Lib.hid (Has.new (w.alloc (.cells #[.int .i64 d.b, ve, vt] 31)) [.int .i64 0, .slice none 0 0, .slice none 0 0] 31)
  obtain ⟨W0, hW0⟩ : ∃ W0, W0 = (w.alloc (.cells #[.int .i64 d.b, ve, vt] 31)).alloc (.cells #[.int .i64 0, .slice none 0 0, .slice none 0 0] 31) := ⟨_, rfl⟩
  rw [← hW0] at HB HX HY
  have hs0 : W0.heap.size = w.heap.size + 2 := by rw [hW0]; simp
  have HS := Lib.hid hs0
  rw [show (w.alloc (.cells #[.int .i64 d.b, ve, vt] 31)).heap.size = w.heap.size + 1 by simp] at HY
  have HV := Lib.hid (rValid_c _ d W0 (h0.keep HB.out))
  have HW := Lib.hid hW0
  have HE := Lib.hid he; have HT := Lib.hid ht
  clear he ht hW0 hs0 h0
  rcases hv : vldB d with _ | _
  · rw [hv] at HV
    rw [(trD_no hv).1, (trD_no hv).2]
    clear hv
    go_enter Try.func36, Try.ntmps36
    go_wp2_with fail
    rw [← HW.out]
    refine HV.out.mono ?_
    rintro e w1 ⟨rfl, hb⟩
    have HB1 := Lib.hid (show Below W0.heap.size W0 w1 from hb)
    obtain ⟨y1, y2, y3⟩ := (HY.out.keep HB1.out).c3
    obtain ⟨f1, f2, f3⟩ := (HY.out.keep HB1.out).f3
    clear hb
    go_wp2
    have hBw := ((((bt_ HB.out HB1.out).st (b := w.heap.size + 1) (i := 0) (u := .int .i64 0) (by omega)).st (b := w.heap.size + 1) (i := 1) (u := .slice none 0 0) (by omega)).st (b := w.heap.size + 1) (i := 2) (u := .slice none 0 0) (by omega))
    refine bodyPost_ret (resD36 _ _ _ _ _ _ _ rfl rfl ((HY.out.keep HB1.out).set3 _ _ _)) rfl ⟨_, rfl, RD.zero _, hBw⟩
  · rw [hv] at HV
    have HV0 := Lib.hid hv
    obtain ⟨E, ce, rfl⟩ := HE.out.slice
    obtain ⟨T, ct, rfl⟩ := HT.out.slice
    by_cases hn : d.ex.length = 2
    · have HD := Lib.hid (trD_yes hv hn)
      have hst : d.st.length = 2 := by have := (vld_ok hv).2.1; omega
      have HN := Lib.hid hn; have HN2 := Lib.hid hst
      rw [hn] at HX HW HV
      rw [hst] at HX HW HV
      rw [hn, hst]
      rw [HD.out.1, HD.out.2]
      clear hv hn hst
      go_enter Try.func36, Try.ntmps36
      go_wp2_with fail
      rw [← HW.out]
      refine HV.out.mono ?_
      rintro e w1 ⟨rfl, hb⟩
      have HB1 := Lib.hid (show Below W0.heap.size W0 w1 from hb)
      have hR1 := Lib.hid (HE.out.keep (bt_ HB.out HB1.out)); have hR2 := Lib.hid (HT.out.keep (bt_ HB.out HB1.out))
      have HX1 := Lib.hid (HX.out.keep HB1.out)
      have HY1 := Lib.hid (HY.out.keep HB1.out)
      have HBB := Lib.hid (bt_ HB.out HB1.out)
      have HS1 := Lib.hid (show w.heap.size + 2 ≤ w1.heap.size by have := HB1.out.size; rw [HS.out] at this; exact this)
      obtain ⟨e0, e1, hex⟩ : ∃ e0 e1, d.ex = [e0, e1] := by
        match d.ex, HN.out with
        | [a, b], _ => exact ⟨a, b, rfl⟩
      obtain ⟨t0, t1, hst⟩ : ∃ t0 t1, d.st = [t0, t1] := by
        match d.st, HN2.out with
        | [a, b], _ => exact ⟨a, b, rfl⟩
      have hRa := hR1.out; have hRb := hR2.out
      rw [hex] at hRa
      rw [hst] at hRb
      obtain ⟨P1, k1, q1, -, -, hc1⟩ := hRa
      obtain ⟨b1, o1, rfl, hd1⟩ := hc1 (by simp)
      obtain ⟨P2, k2, q2, -, -, hc2⟩ := hRb
      obtain ⟨b2, o2, rfl, hd2⟩ := hc2 (by simp)
      have u0 := hd1 0 e0 rfl; have u1 := hd1 1 e1 rfl; have u2 := hd2 0 t0 rfl; have u3 := hd2 1 t1 rfl
      cases q1; cases q2
      obtain ⟨x1, x2, x3⟩ := HX1.out.c3
      rw [Nat.add_zero] at u0 u2
      have hbb1 : b1 < w.heap.size + 1 := by
        obtain ⟨P1, k1, q1, -, -, hc3⟩ := HE.out
        obtain ⟨b3, o3, e3, hd3⟩ := hc3 (by rw [hex]; simp)
        have := World.block_lt_of_cell? w _ (hd3 0 e0 (by rw [hex]; rfl))
        cases q1; cases e3
        exact Nat.lt_succ_of_lt this
      have hbb2 : b2 < w.heap.size + 1 := by
        obtain ⟨P1, k1, q1, -, -, hc3⟩ := HT.out
        obtain ⟨b3, o3, e3, hd3⟩ := hc3 (by rw [hst]; simp)
        have := World.block_lt_of_cell? w _ (hd3 0 t0 (by rw [hst]; rfl))
        cases q1; cases e3
        exact Nat.lt_succ_of_lt this
      have HL1 := Lib.hid hbb1; have HL2 := Lib.hid hbb2
      have hs1 : SU w (.int .i64 d.b) (.slice (some ⟨b1, o1, none⟩) 2 ce) (.slice (some ⟨b2, o2, none⟩) 2 ct) ⟨b1, o1, none⟩ ⟨b1, o1 + 1, none⟩ ⟨b2, o2, none⟩ ⟨b2, o2 + 1, none⟩ (.int .i64 e0) (.int .i64 e1) (.int .i64 t0) (.int .i64 t1) w1 := ⟨HBB.out, x1, x2, x3, u0, u1, u2, u3⟩
      have hs1 := hs1.drew
      obtain ⟨oE, hoE⟩ : ∃ o : Obj, o = .cells #[.int .i64 e1, .int .i64 e0] 3 := ⟨_, rfl⟩
      obtain ⟨oT, hoT⟩ : ∃ o : Obj, o = .cells #[.int .i64 t1, .int .i64 t0] 3 := ⟨_, rfl⟩
      obtain ⟨y1, y2, y3⟩ := ((HY1.out.alloc oE).alloc oT).c3
      obtain ⟨f1, f2, f3⟩ := ((HY1.out.alloc oE).alloc oT).f3
      obtain ⟨z1, z2, z3⟩ := ((HY1.out.alloc oT).alloc oE).c3
      obtain ⟨g1, g2, g3⟩ := ((HY1.out.alloc oT).alloc oE).f3
      rw [hoE] at y1 y2 y3 f1 f2 f3 z1 z2 z3 g1 g2 g3
      rw [hoT] at y1 y2 y3 f1 f2 f3 z1 z2 z3 g1 g2 g3
      clear hc1 hc2 hd1 hd2 hb hoE hoT oE oT u0 u1 u2 u3 hbb1 hbb2
      go_wp2_with fail
      unfold SU at hs1
      clear x1 x2 x3
      go_region_held3 (fun w' => Below w.heap.size w w' ∧ w'.cell? ⟨w.heap.size, 0, none⟩ = some (.int .i64 d.b) ∧ w'.cell? ⟨w.heap.size, 1, none⟩ = some (.slice (some ⟨b1, o1, none⟩) 2 ce) ∧ w'.cell? ⟨w.heap.size, 2, none⟩ = some (.slice (some ⟨b2, o2, none⟩) 2 ct) ∧ w'.cell? ⟨b1, o1, none⟩ = some (.int .i64 e0) ∧ w'.cell? ⟨b1, o1 + 1, none⟩ = some (.int .i64 e1) ∧ w'.cell? ⟨b2, o2, none⟩ = some (.int .i64 t0) ∧ w'.cell? ⟨b2, o2 + 1, none⟩ = some (.int .i64 t1))
        (first | assumption | exact SU.alloc (by assumption) _ | exact (SU.alloc (by assumption) _).drew | exact SU.far3 HL1.out HL1.out HL2.out HL2.out (by assumption) _ _ _)
        (first | fail)
      all_goals
        obtain ⟨hBw, -⟩ := ‹_ ∧ _›
        have HBw := Lib.hid hBw
        clear hBw hs1 y1 y2 y3 f1 f2 f3 z1 z2 z3 g1 g2 g3
        go_wp2
        have hfe : Fit e0 ∧ Fit e1 := ⟨HE.out.fit e0 (by rw [hex]; simp), HE.out.fit e1 (by rw [hex]; simp)⟩
        have hft : Fit t0 ∧ Fit t1 := ⟨HT.out.fit t0 (by rw [hst]; simp), HT.out.fit t1 (by rw [hst]; simp)⟩
        have hEE := (Has.new w1 [.int .i64 e1, .int .i64 e0] 3).alloc (.cells #[.int .i64 t1, .int .i64 t0] 3)
        have hTE := Has.new (w1.alloc (.cells #[.int .i64 e1, .int .i64 e0] 3)) [.int .i64 t1, .int .i64 t0] 3
        have hTT := (Has.new w1 [.int .i64 t1, .int .i64 t0] 3).alloc (.cells #[.int .i64 e1, .int .i64 e0] 3)
        have hET := Has.new (w1.alloc (.cells #[.int .i64 t1, .int .i64 t0] 3)) [.int .i64 e1, .int .i64 e0] 3
        have hsz : ∀ o, (w1.alloc o).heap.size = w1.heap.size + 1 := fun o => by simp
        rw [hsz] at hTE hET
        have hge := HS1.out
        rw [show d.ex.reverse = [e1, e0] by rw [hex]; rfl, show d.st.reverse = [t1, t0] by rw [hst]; rfl]
        refine bodyPost_ret (resD36 _ _ _ _ _ _ _ rfl rfl ((((HY1.out.alloc _).alloc _).set3 _ _ _).drew)) rfl ⟨_, rfl, ⟨_, _, rfl, ?_, ?_, hfb⟩, HBw.out⟩
        · first
          | with_reducible exact RI.pair _ _ _ hfe.2 hfe.1 _ _ (((hEE.far (by omega)).far (by omega)).far (by omega)).drew
          | with_reducible exact RI.pair _ _ _ hfe.2 hfe.1 _ _ (((hET.far (by omega)).far (by omega)).far (by omega)).drew
        · first
          | with_reducible exact RI.pair _ _ _ hft.2 hft.1 _ _ (((hTE.far (by omega)).far (by omega)).far (by omega)).drew
          | with_reducible exact RI.pair _ _ _ hft.2 hft.1 _ _ (((hTT.far (by omega)).far (by omega)).far (by omega)).drew
    · rw [(trD_rank hv hn).1, (trD_rank hv hn).2]
      have HN := Lib.hid hn
      have hdec : ((d.ex.length : Int) ≠ 2) := by omega
      clear hv
      go_enter Try.func36, Try.ntmps36
      go_wp2_with fail
      rw [← HW.out]
      refine HV.out.mono ?_
      rintro e w1 ⟨rfl, hb⟩
      have HB1 := Lib.hid (show Below W0.heap.size W0 w1 from hb)
      obtain ⟨x1, x2, x3⟩ := (HX.out.keep HB1.out).c3
      obtain ⟨y1, y2, y3⟩ := (HY.out.keep HB1.out).c3
      obtain ⟨f1, f2, f3⟩ := (HY.out.keep HB1.out).f3
      clear hb
      go_wp2
      have hBw := ((((bt_ HB.out HB1.out).st (b := w.heap.size + 1) (i := 0) (u := .int .i64 0) (by omega)).st (b := w.heap.size + 1) (i := 1) (u := .slice none 0 0) (by omega)).st (b := w.heap.size + 1) (i := 2) (u := .slice none 0 0) (by omega))
      refine bodyPost_ret (resD36 _ _ _ _ _ _ _ rfl rfl ((HY.out.keep HB1.out).set3 _ _ _)) rfl ⟨_, rfl, RD.zero _, hBw⟩
end Go.Proofs.Ytkgdnlknnjiglaa

/- Contract of the code's copied: two rows of the call's own, apart. -/
import Derived.Test.YtkgdnlknnjiglaaSecI
import Derived.Deep.RegionHeld3
namespace Go.Proofs.Ytkgdnlknnjiglaa
open Go.RowKit

theorem resD63 (tm : Array Value) (R : Nat) (a b c : Value) (w : World) (hp : tm[2]?.getD undef = .pointer (some ⟨R, 0, none⟩)) (h : Has w R [a, b, c]) :
    (results Try.f63 tm).run Try.prog w = .ok (.agg #[a, b, c]) w := by
  obtain ⟨h0, h1, h2⟩ := h.c3
  simp [results, Try.results63, go_sem, hp, h0, h1, h2]
def TPost (d : DS) (w : World) (e : Ending) (w' : World) : Prop := ∃ ve vt, e = .returned (.agg #[.int .i64 d.b, ve, vt]) ∧ TW w' w.heap.size ve vt d.ex d.st ∧ Below w.heap.size w w'
/-- The box of the argument stands in this world. -/
def SX (w : World) (b v1 v2 : Value) (w' : World) : Prop := Below w.heap.size w w' ∧ w'.cell? ⟨w.heap.size, 0, none⟩ = some b ∧ w'.cell? ⟨w.heap.size, 1, none⟩ = some v1 ∧ w'.cell? ⟨w.heap.size, 2, none⟩ = some v2
theorem SX.keep {w wx w' : World} {b v1 v2 : Value} (h : SX w b v1 v2 wx) (hb : Below wx.heap.size wx w') : SX w b v1 v2 w' := ⟨bt_ h.1 hb, ck hb h.2.1, ck hb h.2.2.1, ck hb h.2.2.2⟩
theorem SX.far {w wx : World} {b v1 v2 : Value} (h : SX w b v1 v2 wx) (i : Nat) (x : Value) : SX w b v1 v2 (wx.setCell ⟨w.heap.size + 1, i, none⟩ x) := by
  have hc : ∀ j y, wx.cell? ⟨w.heap.size, j, none⟩ = some y → (wx.setCell ⟨w.heap.size + 1, i, none⟩ x).cell? ⟨w.heap.size, j, none⟩ = some y := fun j y hy =>
    (World.cell?_setCell_other wx ⟨w.heap.size + 1, i, none⟩ ⟨w.heap.size, j, none⟩ x (by intro e; injection e with e1; omega)).trans hy
  exact ⟨h.1.st (by omega), hc _ _ h.2.1, hc _ _ h.2.2.1, hc _ _ h.2.2.2⟩
theorem SX.far3 {w wx : World} {b v1 v2 : Value} (h : SX w b v1 v2 wx) (x y z : Value) : SX w b v1 v2 (((wx.setCell ⟨w.heap.size + 1, 0, none⟩ x).setCell ⟨w.heap.size + 1, 1, none⟩ y).setCell ⟨w.heap.size + 1, 2, none⟩ z) := ((h.far _ _).far _ _).far _ _
theorem two_apart {w wa wb : World} {B : Nat} {va vb : Value} {l m : List Int} (hB : w.heap.size + 2 ≤ B) (hva : OW wa B va l) (hvb : OW wb wa.heap.size vb m) (hbb : Below wa.heap.size wa wb) (hs : B ≤ wa.heap.size) (x y z : Value) :
    TW (((wb.setCell ⟨w.heap.size + 1, 0, none⟩ x).setCell ⟨w.heap.size + 1, 1, none⟩ y).setCell ⟨w.heap.size + 1, 2, none⟩ z) w.heap.size va vb l m :=
  ⟨((((hva.keep hbb).far (by omega)).far (by omega)).far (by omega)).more (by omega), (((hvb.far (by omega)).far (by omega)).far (by omega)).more (by omega), fun g h1 h2 => by
    have := (hva.lt g h1).2; have := (hvb.lt g h2).1; omega⟩
set_option maxRecDepth 100000 in
set_option maxHeartbeats 4000000 in
theorem copied_c (v : Value) (d : DS) (w : World) (h : RD w v d) (hl : d.ex.length ≤ 1000 ∧ d.st.length ≤ 1000) : Calls Try.prog 63 #[v] w (TPost d w) := by
  obtain ⟨ve, vt, rfl, he, ht, hfb⟩ := h
  have HB := Lib.hid (bt_ (box_below w (.cells #[.int .i64 d.b, ve, vt] 31)) (box_below _ (.cells #[.int .i64 0, .slice none 0 0, .slice none 0 0] 31)))
  have HX := Lib.hid ((Has.new w [.int .i64 d.b, ve, vt] 31).alloc (.cells #[.int .i64 0, .slice none 0 0, .slice none 0 0] 31))
  have HY := Lib.hid (Has.new (w.alloc (.cells #[.int .i64 d.b, ve, vt] 31)) [.int .i64 0, .slice none 0 0, .slice none 0 0] 31)
  obtain ⟨W0, hW0⟩ : ∃ W0, W0 = (w.alloc (.cells #[.int .i64 d.b, ve, vt] 31)).alloc (.cells #[.int .i64 0, .slice none 0 0, .slice none 0 0] 31) := ⟨_, rfl⟩
  rw [← hW0] at HB HX HY
  have hs0 : W0.heap.size = w.heap.size + 2 := by rw [hW0]; simp
  have HS := Lib.hid (show w.heap.size + 2 ≤ W0.drew.heap.size by show w.heap.size + 2 ≤ W0.heap.size; omega)
  rw [show (w.alloc (.cells #[.int .i64 d.b, ve, vt] 31)).heap.size = w.heap.size + 1 by simp] at HY
  have HSX := Lib.hid (show SX w (.int .i64 d.b) ve vt W0 from ⟨HB.out, HX.out.c3⟩)
  have HC1 := Lib.hid (fun (wx : World) (hb : Below w.heap.size w wx) => clone_c ve d.ex wx (he.keep hb) (by omega))
  have HC2 := Lib.hid (fun (wx : World) (hb : Below w.heap.size w wx) => clone_c vt d.st wx (ht.keep hb) (by omega))
  have HW := Lib.hid hW0
  clear he ht hW0 hs0 hl hfb
  go_enter Try.func63, Try.ntmps63
  go_wp2_with fail
  rw [← HW.out]
  have hs1 : Below w.heap.size w W0.drew ∧ W0.drew.cell? ⟨w.heap.size, 0, none⟩ = some (.int .i64 d.b) ∧ W0.drew.cell? ⟨w.heap.size, 1, none⟩ = some ve ∧ W0.drew.cell? ⟨w.heap.size, 2, none⟩ = some vt := ⟨HB.out.drew, HSX.out.2⟩
  have hy0 : Has W0.drew (w.heap.size + 1) [.int .i64 0, .slice none 0 0, .slice none 0 0] := HY.out.drew
  go_region_held3 (fun w' => Below w.heap.size w w' ∧ w'.cell? ⟨w.heap.size, 0, none⟩ = some (.int .i64 d.b) ∧ w'.cell? ⟨w.heap.size, 1, none⟩ = some ve ∧ w'.cell? ⟨w.heap.size, 2, none⟩ = some vt)
    (first | assumption | exact SX.far3 (by assumption) _ _ _ | exact SX.keep (by assumption) hba | exact SX.keep (by assumption) hbb)
    (first
    | (go_at_call 55; with_reducible (refine (HC1.out _ ?_).mono ?_); exact And.left (by assumption)
       rintro e wa ⟨va, rfl, hva, hba⟩
       have hya : Has wa (w.heap.size + 1) [.int .i64 0, .slice none 0 0, .slice none 0 0] := by first | exact hy0.keep hba | exact hyb.keep hba
       obtain ⟨ya, yb, yc⟩ := hya.c3
       obtain ⟨fa, fb, fc⟩ := hya.f3
       obtain ⟨Aa, ca, rfl⟩ := hva.ri.slice)
    | (go_at_call 55; with_reducible (refine (HC2.out _ ?_).mono ?_); exact And.left (by assumption)
       rintro e wb ⟨vb, rfl, hvb, hbb⟩
       have hyb : Has wb (w.heap.size + 1) [.int .i64 0, .slice none 0 0, .slice none 0 0] := by first | exact hy0.keep hbb | exact hya.keep hbb
       obtain ⟨ya, yb, yc⟩ := hyb.c3
       obtain ⟨fa, fb, fc⟩ := hyb.f3
       obtain ⟨Ab, cb, rfl⟩ := hvb.ri.slice))
  · obtain ⟨hBw, -⟩ := ‹_ ∧ _›
    have HT := Lib.hid (two_apart HS.out hva hvb hbb hba.size (.int .i64 d.b) (.slice Aa d.ex.length ca) (.slice Ab d.st.length cb))
    have HHs := Lib.hid (hyb.set3 (.int .i64 d.b) (.slice Aa d.ex.length ca) (.slice Ab d.st.length cb))
    have HBw := Lib.hid hBw
    clear hBw hva hvb hba hbb hya hyb hy0 hs1
    go_wp2
    exact bodyPost_ret (resD63 _ _ _ _ _ _ rfl HHs.out) rfl ⟨_, _, rfl, HT.out, HBw.out⟩
end Go.Proofs.Ytkgdnlknnjiglaa

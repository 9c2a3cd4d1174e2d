/- Contract of the document's Copy: two rows of the call's own, apart. -/
import Derived.Test.YtkgdnlknnjiglaaSecTa
namespace Go.Proofs.Ytkgdnlknnjiglaa
open Go.RowKit

theorem resD65 (tm : Array Value) (R : Nat) (a b c : Value) (w : World) (hp : tm[2]?.getD undef = .pointer (some ⟨R, 0, none⟩)) (h : Has w R [a, b, c]) :
    (results Try.f65 tm).run Try.prog w = .ok (.agg #[a, b, c]) w := by
  obtain ⟨h0, h1, h2⟩ := h.c3
  simp [results, Try.results65, go_sem, hp, h0, h1, h2]
theorem step_app {w : World} {ops : Array Oper} {o : Oper} {a : Act} {K : Act → World → Prop} {Q : Exit → Act → World → Prop} {E : Prop} (hgd : o.guard = none) (s x : Operand)
    (ho : o.op = .call { callee := .builtin .append, args := #[s, x], argTypes := #[29, 29] })
    (B : Nat) (v vx : Value) (m : List Int) (hs : a.eval s = v) (hx : a.eval x = vx) (hown : OW w B v []) (hr : RI w vx m) (hn : m.length ≤ 17592186044416) (hB : B ≤ w.heap.size)
    (h : ∀ v' w', OW w' B v' m → w.grownBy w' v.ownBlock → (v'.ownBlock = v.ownBlock ∨ v'.ownBlock = some w.heap.size) → K (a.put o.dst v') w') :
    if Region.wanted o (yielded ops a.tmps) = true then Oper.wp Try.prog o a w K Q else E := by
  have hw : Region.wanted o (yielded ops a.tmps) = true := by simp [Region.wanted, hgd]
  rw [if_pos hw]
  exact wp_app s x ho B v vx [] m hs hown hx hr (by simpa using hn) hB h
theorem SX.grown {w wx w' : World} {b v1 v2 : Value} {row : Option Nat} (h : SX w b v1 v2 wx) (hg : wx.grownBy w' row) (hn : ∀ k, row = some k → w.heap.size + 2 ≤ k) (hs : w.heap.size + 2 ≤ wx.heap.size) : SX w b v1 v2 w' := by
  have hc : ∀ j y, wx.cell? ⟨w.heap.size, j, none⟩ = some y → w'.cell? ⟨w.heap.size, j, none⟩ = some y := fun j y hy => by
    rw [World.cell?_of_block (a := ⟨w.heap.size, j, none⟩) (hg.block w.heap.size (by omega) (fun e => by have := hn _ e.symm; omega))]; exact hy
  exact ⟨h.1.grown hg (by omega) (fun k hk => by have := hn k hk; omega), hc _ _ h.2.1, hc _ _ h.2.2.1, hc _ _ h.2.2.2⟩
theorem SX.alloc {w wx : World} {b v1 v2 : Value} (h : SX w b v1 v2 wx) (o : Obj) : SX w b v1 v2 (wx.alloc o) := h.keep (box_below wx o)
theorem SX.drew {w wx : World} {b v1 v2 : Value} (h : SX w b v1 v2 wx) : SX w b v1 v2 wx.drew := h.keep (Below.refl _ _).drew
theorem OW.drew {w : World} {B : Nat} {v : Value} {l : List Int} (h : OW w B v l) : OW w.drew B v l := h
theorem TW.fst {w : World} {B : Nat} {u v : Value} {l m : List Int} (h : TW w B u v l m) : OW w B u l := h.1
theorem TW.snd {w : World} {B : Nat} {u v : Value} {l m : List Int} (h : TW w B u v l m) : OW w B v m := h.2.1
theorem TW.drew {w : World} {B : Nat} {u v : Value} {l m : List Int} (h : TW w B u v l m) : TW w.drew B u v l m := h
theorem TW.more {w : World} {B B' : Nat} {u v : Value} {l m : List Int} (h : TW w B u v l m) (hB : B' ≤ B) : TW w B' u v l m := ⟨h.1.more hB, h.2.1.more hB, h.2.2⟩
theorem TW.two (w : World) (B : Nat) (hB : B ≤ w.heap.size) : TW ((w.alloc (.cells #[] 3)).alloc (.cells #[] 3)) B (.slice (some ⟨w.heap.size, 0, none⟩) 0 0) (.slice (some ⟨w.heap.size + 1, 0, none⟩) 0 0) [] [] := by
  have h2 := OW.empty (w.alloc (.cells #[] 3)) B (by simp; omega)
  rw [show (w.alloc (.cells #[] 3)).heap.size = w.heap.size + 1 by simp] at h2
  exact ⟨(OW.empty w B hB).alloc _, h2, fun g h => by
    simp [Value.ownBlock] at h ⊢; omega⟩
theorem TW.late {w : World} {B : Nat} {u : Value} {l : List Int} (h : OW w B u l) (hB : B ≤ w.heap.size) : TW (w.alloc (.cells #[] 3)) B u (.slice (some ⟨w.heap.size, 0, none⟩) 0 0) l [] :=
  ⟨h.alloc _, OW.empty w B hB, fun g hg => by
    have := (h.lt g hg).2
    simp [Value.ownBlock]; omega⟩
/-- The argument's and the result's boxes stand. -/
def CW (w : World) (b v1 v2 : Value) (z1 z2 z3 : Value) (W : World) : Prop := SX w b v1 v2 W ∧ Has W (w.heap.size + 1) [z1, z2, z3] ∧ w.heap.size + 2 ≤ W.heap.size
theorem CW.alloc {w W : World} {b v1 v2 z1 z2 z3 : Value} (h : CW w b v1 v2 z1 z2 z3 W) (o : Obj) : CW w b v1 v2 z1 z2 z3 (W.alloc o) := ⟨h.1.alloc o, h.2.1.alloc o, by have := h.2.2; simp; omega⟩
theorem CW.drew {w W : World} {b v1 v2 z1 z2 z3 : Value} (h : CW w b v1 v2 z1 z2 z3 W) : CW w b v1 v2 z1 z2 z3 W.drew := ⟨h.1.drew, h.2.1.drew, h.2.2⟩
theorem CW.grown {w W w' : World} {b v1 v2 z1 z2 z3 : Value} {row : Option Nat} (h : CW w b v1 v2 z1 z2 z3 W) (hg : W.grownBy w' row) (hn : ∀ k, row = some k → w.heap.size + 2 ≤ k) : CW w b v1 v2 z1 z2 z3 w' :=
  ⟨h.1.grown hg hn h.2.2, h.2.1.grown hg (fun k hk => by have := hn k hk; omega), by have := hg.size; have := h.2.2; omega⟩
set_option maxRecDepth 100000 in
set_option maxHeartbeats 4000000 in
theorem Copy_c (v : Value) (d : DS) (w : World) (h : RD w v d) (hl : d.ex.length ≤ 1000 ∧ d.st.length ≤ 1000) : Calls Try.prog 65 #[v] w (TPost d w) := by
  obtain ⟨ve, vt, rfl, he, ht, hfb⟩ := h
  have HB := Lib.hid (bt_ (box_below w (.cells #[.int .i64 d.b, ve, vt] 31)) (box_below _ (.cells #[.int .i64 0, .slice none 0 0, .slice none 0 0] 31)))
  have HX := Lib.hid ((Has.new w [.int .i64 d.b, ve, vt] 31).alloc (.cells #[.int .i64 0, .slice none 0 0, .slice none 0 0] 31))
  have HY := Lib.hid (Has.new (w.alloc (.cells #[.int .i64 d.b, ve, vt] 31)) [.int .i64 0, .slice none 0 0, .slice none 0 0] 31)
  obtain ⟨W0, hW0⟩ : ∃ W0, W0 = (w.alloc (.cells #[.int .i64 d.b, ve, vt] 31)).alloc (.cells #[.int .i64 0, .slice none 0 0, .slice none 0 0] 31) := ⟨_, rfl⟩
  rw [← hW0] at HB HX HY
  have hs0 : W0.heap.size = w.heap.size + 2 := by rw [hW0]; simp
  have HS := Lib.hid hs0
  rw [show (w.alloc (.cells #[.int .i64 d.b, ve, vt] 31)).heap.size = w.heap.size + 1 by simp] at HY
  have HSX := Lib.hid (show SX w (.int .i64 d.b) ve vt W0 from ⟨HB.out, HX.out.c3⟩)
  have HE := Lib.hid he; have HT := Lib.hid ht
  have HW := Lib.hid hW0
  clear he ht hW0 hs0 hfb
  have HL := Lib.hid hl
  clear hl
  go_enter Try.func65, Try.ntmps65
  go_wp2_with fail
  rw [← HW.out]
  have hs1 : Below w.heap.size w W0.drew ∧ W0.drew.cell? ⟨w.heap.size, 0, none⟩ = some (.int .i64 d.b) ∧ W0.drew.cell? ⟨w.heap.size, 1, none⟩ = some ve ∧ W0.drew.cell? ⟨w.heap.size, 2, none⟩ = some vt := ⟨HB.out.drew, HSX.out.2⟩
  have hC0 : CW w (.int .i64 d.b) ve vt (.int .i64 0) (.slice none 0 0) (.slice none 0 0) W0 := ⟨HSX.out, HY.out, by have := HS.out; omega⟩
  have HCA := Lib.hid (hC0.alloc (.cells #[] 3)).drew
  have HCB := Lib.hid ((hC0.alloc (.cells #[] 3)).alloc (.cells #[] 3)).drew
  have HTA := Lib.hid (OW.empty W0 (w.heap.size + 2) (by have := HS.out; omega)).drew
  have HTB := Lib.hid (TW.two W0 (w.heap.size + 2) (by have := HS.out; omega)).drew
  have HTC := Lib.hid (TW.two W0 (w.heap.size + 2) (by have := HS.out; omega)).swap.drew
  have HNE := Lib.hid (show d.ex.length ≤ 17592186044416 by have := HL.out; omega)
  have HNT := Lib.hid (show d.st.length ≤ 17592186044416 by have := HL.out; omega)
  have HBR := Lib.hid (fun (n : Nat) (hn : W0.heap.size ≤ n) (k : Nat) (hk : (Value.slice (some ⟨n, 0, none⟩) 0 0).ownBlock = some k) => show w.heap.size + 2 ≤ k by
    have := HS.out
    simp [Value.ownBlock] at hk; omega)
  clear hC0
  go_region_held3 (fun w' => Below w.heap.size w w' ∧ w'.cell? ⟨w.heap.size, 0, none⟩ = some (.int .i64 d.b) ∧ w'.cell? ⟨w.heap.size, 1, none⟩ = some ve ∧ w'.cell? ⟨w.heap.size, 2, none⟩ = some vt)
    (first | assumption | exact SX.far3 (by assumption) _ _ _ | exact SX.alloc (by assumption) _ | exact (SX.alloc (by assumption) _).drew )
    (first
    | (refine step_app (by rfl) _ _ (by rfl) (w.heap.size + 2) (.slice (some ⟨W0.heap.size, 0, none⟩) 0 0) ve d.ex (by rfl) (by rfl) (by with_reducible exact HTA.out) (HE.out.keep HCA.out.1.1) HNE.out HCA.out.2.2 ?_
       intro va wa hva hga hba
       have hca := HCA.out.grown hga (HBR.out _ (Nat.le_refl _))
       have hta := (TW.late hva hca.2.2)
       have hsa := hca.1)
    | (refine step_app (by rfl) _ _ (by rfl) (w.heap.size + 2) (.slice (some ⟨W0.heap.size, 0, none⟩) 0 0) ve d.ex (by rfl) (by rfl) (by with_reducible exact HTB.out.fst) (HE.out.keep HCB.out.1.1) HNE.out HCB.out.2.2 ?_
       intro va wa hva hga hba
       have hca := HCB.out.grown hga (HBR.out _ (Nat.le_refl _))
       have hta := HTB.out.app hva hga hba
       have hsa := hca.1)
    | (refine step_app (by rfl) _ _ (by rfl) (w.heap.size + 2) (.slice (some ⟨W0.heap.size + 1, 0, none⟩) 0 0) ve d.ex (by rfl) (by rfl) (by with_reducible exact HTC.out.fst) (HE.out.keep HCB.out.1.1) HNE.out HCB.out.2.2 ?_
       intro va wa hva hga hba
       have hca := HCB.out.grown hga (HBR.out _ (Nat.le_succ _))
       have hta := HTC.out.app hva hga hba
       have hsa := hca.1)
    | (refine step_app (by rfl) _ _ (by rfl) (w.heap.size + 2) (.slice (some ⟨wa.heap.size, 0, none⟩) 0 0) vt d.st (by rfl) (by rfl) (by with_reducible exact hta.snd) (HT.out.keep ((hca.alloc (.cells #[] 3))).1.1) HNT.out ((hca.alloc (.cells #[] 3))).2.2 ?_
       intro vb wb hvb hgb hbb
       have hcb := ((hca.alloc (.cells #[] 3))).grown hgb (fun k hk => by have := hca.2.2; simp [Value.ownBlock] at hk; omega)
       have htb := (hta.swap.app hvb hgb hbb).swap
       have hsb := hcb.1
       obtain ⟨yb1, yb2, yb3⟩ := hcb.2.1.c3
       obtain ⟨fb1, fb2, fb3⟩ := hcb.2.1.f3
       obtain ⟨Ab, cb, rfl⟩ := htb.2.1.ri.slice
       obtain ⟨Aa, ca, rfl⟩ := htb.1.ri.slice)
    | (refine step_app (by rfl) _ _ (by rfl) (w.heap.size + 2) (.slice (some ⟨W0.heap.size + 1, 0, none⟩) 0 0) vt d.st (by rfl) (by rfl) (by with_reducible exact hta.snd) (HT.out.keep hca.1.1) HNT.out hca.2.2 ?_
       intro vb wb hvb hgb hbb
       have hcb := hca.grown hgb (HBR.out _ (Nat.le_succ _))
       have htb := (hta.swap.app hvb hgb hbb).swap
       have hsb := hcb.1
       obtain ⟨yb1, yb2, yb3⟩ := hcb.2.1.c3
       obtain ⟨fb1, fb2, fb3⟩ := hcb.2.1.f3
       obtain ⟨Ab, cb, rfl⟩ := htb.2.1.ri.slice
       obtain ⟨Aa, ca, rfl⟩ := htb.1.ri.slice)
    | (refine step_app (by rfl) _ _ (by rfl) (w.heap.size + 2) (.slice (some ⟨W0.heap.size, 0, none⟩) 0 0) vt d.st (by rfl) (by rfl) (by with_reducible exact hta.snd) (HT.out.keep hca.1.1) HNT.out hca.2.2 ?_
       intro vb wb hvb hgb hbb
       have hcb := hca.grown hgb (HBR.out _ (Nat.le_refl _))
       have htb := (hta.swap.app hvb hgb hbb).swap
       have hsb := hcb.1
       obtain ⟨yb1, yb2, yb3⟩ := hcb.2.1.c3
       obtain ⟨fb1, fb2, fb3⟩ := hcb.2.1.f3
       obtain ⟨Ab, cb, rfl⟩ := htb.2.1.ri.slice
       obtain ⟨Aa, ca, rfl⟩ := htb.1.ri.slice))
  all_goals
    obtain ⟨hBw, -⟩ := ‹_ ∧ _›
    have HT3 := Lib.hid ((((htb.far (n := w.heap.size + 1) (i := 0) (x := .int .i64 d.b) (by omega)).far (n := w.heap.size + 1) (i := 1) (x := .slice Aa d.ex.length ca) (by omega)).far (n := w.heap.size + 1) (i := 2) (x := .slice Ab d.st.length cb) (by omega)).more (show w.heap.size ≤ w.heap.size + 2 by omega))
    have HHs := Lib.hid (hcb.2.1.set3 (.int .i64 d.b) (.slice Aa d.ex.length ca) (.slice Ab d.st.length cb))
    have HBw := Lib.hid hBw
    clear hBw hs1
    go_wp2
    exact bodyPost_ret (resD65 _ _ _ _ _ _ rfl HHs.out) rfl ⟨_, _, rfl, HT3.out, HBw.out⟩
end Go.Proofs.Ytkgdnlknnjiglaa

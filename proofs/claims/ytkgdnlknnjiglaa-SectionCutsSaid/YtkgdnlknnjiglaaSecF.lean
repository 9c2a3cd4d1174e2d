/- Slices of the call's own that grow: append of any list of numbers; contracts of Clone, Size and Whole. -/
import Derived.Test.YtkgdnlknnjiglaaSecE
import Derived.Maps.AppendAt
import Derived.Laws.OwnMore
import Derived.OwnWalk
namespace Go.Proofs.Ytkgdnlknnjiglaa
open Go.RowKit

theorem info3 : (Try.prog.info? 3).map (fun i => (i.zero, i.size, i.bytes)) = some (some (.int .i64 0), 1, 8) := by kernel_rfl
theorem icells_app (a b : List Int) : icells (a ++ b) = icells a ++ icells b := by simp [icells]
theorem icells_one (l : List Int) : ∀ u ∈ icells l, u.oneCell' = true := by
  intro u hu
  unfold icells at hu
  obtain ⟨x, _, rfl⟩ := List.mem_map.1 hu
  rfl
/-- A slice of the call's own, from block B on. -/
def OW (w : World) (B : Nat) (v : Value) (l : List Int) : Prop := w.ownsRow B 3 1 v l.length (icells l) ∧ (∀ x ∈ l, Fit x) ∧ l.length ≤ 17592186044416
theorem OW.ri {w : World} {B : Nat} {v : Value} {l : List Int} (h : OW w B v l) : RI w v l := RI.of_own h.1 h.2.1 (by have := h.2.2; omega)
theorem OW.nil (w : World) (B : Nat) : OW w B (.slice none 0 0) [] := ⟨World.ownsRow_nil _ _ _ _, by simp, by simp⟩
theorem own_below {w w' : World} {b : Nat} {e : TypeId} {sz n : Nat} {v : Value} {xs : List Value} (h : w.ownsRow b e sz v n xs) (hb : Below w.heap.size w w') : w'.ownsRow b e sz v n xs := by
  have hlt := h.lt
  refine ⟨h.1, ?_⟩
  rcases h.2 with h0 | ⟨g, cap, cur, rfl, hg, hc, hr⟩
  · exact .inl h0
  · exact .inr ⟨g, cap, cur, rfl, hg, (hb.block g (hlt g rfl).2).trans hc, hr⟩
theorem OW.keep {w w' : World} {B : Nat} {v : Value} {l : List Int} (h : OW w B v l) (hb : Below w.heap.size w w') : OW w' B v l := ⟨own_below h.1 hb, h.2⟩
theorem OW.alloc {w : World} {B : Nat} {v : Value} {l : List Int} (h : OW w B v l) (o : Obj) : OW (w.alloc o) B v l := ⟨h.1.alloc o, h.2⟩
theorem OW.drewN {w : World} {B : Nat} {v : Value} {l : List Int} (h : OW w B v l) (n : Nat) : OW (w.drewN n) B v l := h
theorem OW.lt {w : World} {B : Nat} {v : Value} {l : List Int} (h : OW w B v l) : ∀ k, v.ownBlock = some k → B ≤ k ∧ k < w.heap.size := h.1.lt
theorem OW.more {w : World} {B B' : Nat} {v : Value} {l : List Int} (h : OW w B v l) (hB : B' ≤ B) : OW w B' v l := by
  refine ⟨⟨h.1.1, ?_⟩, h.2⟩
  rcases h.1.2 with h0 | ⟨g, cap, cur, rfl, hg, hr⟩
  · exact .inl h0
  · exact .inr ⟨g, cap, cur, rfl, by omega, hr⟩
theorem grown_set (w : World) (n i : Nat) (u : Value) : w.grownBy (w.setCell ⟨n, i, none⟩ u) (some n) :=
  ⟨rfl, rfl, rfl, by simp [World.setCell], fun k _ hk => Below.heap_setCell w ⟨n, i, none⟩ u k (fun e => hk (by rw [e]))⟩
theorem OW.far {w : World} {B n i : Nat} {v u : Value} {l : List Int} (h : OW w B v l) (hn : n < B) : OW (w.setCell ⟨n, i, none⟩ u) B v l :=
  ⟨h.1.kept (grown_set w n i u) (by
    rcases hv : v.ownBlock with _ | k
    · exact .inl rfl
    · exact .inr (fun e => by have := (h.lt k hv).1; have : k = n := by simpa using e
                              omega)), h.2⟩
theorem RI.one (w : World) (x : Int) (hx : Fit x) (t : TypeId) : RI (w.alloc (.cells #[.int .i64 x] t)) (.slice (some ⟨w.heap.size, 0, none⟩) 1 1) [x] :=
  ⟨_, 1, rfl, by simp, by simpa using hx, fun _ => ⟨_, 0, rfl, fun j u hu => by
    have h := Has.new w [.int .i64 x] t
    rw [Nat.zero_add]
    exact (h j _ (icells_at (l := [x]) hu)).1⟩⟩
theorem OW.empty (w : World) (B : Nat) (hB : B ≤ w.heap.size) : OW (w.alloc (.cells #[] 3)) B (.slice (some ⟨w.heap.size, 0, none⟩) 0 0) [] :=
  ⟨World.ownsRow_lit w #[] 0 hB (by unfold maxLen; omega) rfl, by simp, by simp⟩

theorem run_app (w : World) (ty : TypeId) (B : Nat) (v vx : Value) (l m : List Int) (ho : OW w B v l) (hx : RI w vx m) (hn : l.length + m.length ≤ 17592186044416) (hB : B ≤ w.heap.size) :
    ∃ v' w', (Builtin.append_ #[29, 29] ty #[v, vx]).run Try.prog w = .ok v' w' ∧ OW w' B v' (l ++ m) ∧ w.grownBy w' v.ownBlock ∧ (v'.ownBlock = v.ownBlock ∨ v'.ownBlock = some w.heap.size) := by
  obtain ⟨i0, hi, hz0, hz1, hz2⟩ := info_parts info3
  obtain ⟨A, c, rfl, hm, hf, hc⟩ := hx
  have hfit : ∀ x ∈ l ++ m, Fit x := fun x hx => (List.mem_append.1 hx).elim (ho.2.1 x) (hf x)
  rcases A with _ | ad
  · have hm0 : m = [] := by
      rcases m with _ | ⟨x, m⟩
      · rfl
      · obtain ⟨_, _, h, _⟩ := hc (by simp); cases h
    subst hm0
    refine ⟨v, w, ?_, by simpa using ho, World.grownBy.refl w _, .inl rfl⟩
    rcases ho.1.2 with ⟨rfl, h0⟩ | ⟨g, cap, cur, rfl, _, _, hnc, _⟩
    · have hl : l = [] := List.eq_nil_of_length_eq_zero h0
      subst hl
      simp [Builtin.append_, run_underlying Try.underlying29, sizeOf, typeInfo, hi, Builtin.lenOf, Builtin.firstCells]
    · simp [Builtin.append_, run_underlying Try.underlying29, sizeOf, typeInfo, hi, Builtin.lenOf, Builtin.firstCells, hnc, storeCells]
  · obtain ⟨v', w', h1, h2, h3, _, h5⟩ := run_append_own_at (P := Try.prog) w B 29 ty 3 i0 _ 1 8 Try.underlying29 hi hz0 hz1 hz2 rfl (by decide) v l.length (icells l) ho.1 ad m.length c (icells m) (by rw [icells_len]; omega) (fun j u hu => by
        obtain ⟨x, hx, rfl⟩ := icells_inv hu
        obtain ⟨b, o, e, hr⟩ := hc (by have := (List.getElem?_eq_some_iff.1 hx).1; omega)
        cases e
        rw [Addr.add_lit]
        exact hr j x hx) (icells_one m) (by unfold maxLen; omega) (by omega) hB
    exact ⟨v', w', h1, ⟨by rw [icells_app, List.length_append]; exact h2, hfit, by rw [List.length_append]; exact hn⟩, h3, h5⟩
theorem wp_app {w : World} {o : Oper} {a : Act} {K : Act → World → Prop} {Q : Exit → Act → World → Prop} (s x : Operand)
    (ho : o.op = .call { callee := .builtin .append, args := #[s, x], argTypes := #[29, 29] })
    (B : Nat) (v vx : Value) (l m : List Int) (hs : a.eval s = v) (hown : OW w B v l) (hx : a.eval x = vx) (hr : RI w vx m) (hn : l.length + m.length ≤ 17592186044416) (hB : B ≤ w.heap.size)
    (h : ∀ v' w', OW w' B v' (l ++ m) → w.grownBy w' v.ownBlock → (v'.ownBlock = v.ownBlock ∨ v'.ownBlock = some w.heap.size) → K (a.put o.dst v') w') : o.wp Try.prog a w K Q := by
  obtain ⟨v', w', h1, h2, h3, h4⟩ := run_app w o.type B v vx l m hown hr hn hB
  unfold Oper.wp execOp
  simp only [ho, resolve, invoke, builtin, Sem.run_bind, Sem.run_pure, Result.andThen_ok, List.map_toArray, List.map_cons, List.map_nil, hs, hx, h1]
  exact h v' w' h2 h3 h4
theorem wpList_app {w : World} {ops : Array Oper} {rest : List Oper} {o : Oper} {a : Act} {Q : Exit → Act → World → Prop} (hgd : o.guard = none) (s x : Operand)
    (ho : o.op = .call { callee := .builtin .append, args := #[s, x], argTypes := #[29, 29] })
    (B : Nat) (v vx : Value) (l m : List Int) (hs : a.eval s = v) (hown : OW w B v l) (hx : a.eval x = vx) (hr : RI w vx m) (hn : l.length + m.length ≤ 17592186044416) (hB : B ≤ w.heap.size)
    (h : ∀ v' w', OW w' B v' (l ++ m) → w.grownBy w' v.ownBlock → (v'.ownBlock = v.ownBlock ∨ v'.ownBlock = some w.heap.size) → wpList Try.prog ops Q rest (a.put o.dst v') w') : wpList Try.prog ops Q (o :: rest) a w :=
  wpList_plain hgd fun _ hK => wp_app s x ho B v vx l m hs hown hx hr hn hB fun v' w' h2 h3 h4 => hK _ _ (h v' w' h2 h3 h4)
/-- A call ends with a new slice of its own. -/
def OWPost (l : List Int) (w : World) (e : Ending) (w' : World) : Prop := ∃ v', e = .returned v' ∧ OW w' w.heap.size v' l ∧ Below w.heap.size w w'
theorem ret_v {a : Value} : Ending.returned a = .returned a := rfl
set_option maxHeartbeats 1000000 in
theorem clone_c (v : Value) (l : List Int) (w : World) (h : RI w v l) (hl : l.length ≤ 17592186044416) : Calls Try.prog 55 #[v] w (OWPost l w) := by
  have HR := Lib.hid h
  obtain ⟨A, c, rfl, hm, hf, hc⟩ := h
  rcases A with _ | ad
  · have hm0 : l = [] := by
      rcases l with _ | ⟨x, m⟩
      · rfl
      · obtain ⟨_, _, h, _⟩ := hc (by simp); cases h
    subst hm0
    clear hf hc HR
    have hnil : ∀ w : World, (binOp .eql 29 (.slice none 0 c) (.slice none 0 0)).run Try.prog w = .ok (.bool true) w := fun w => by kernel_rfl
    go_enter Try.func55, Try.ntmps55
    go_wp2
    go_ret
    exact ⟨_, rfl, OW.nil _ _, Below.refl _ _⟩
  · clear hf hc
    have hnil : ∀ w : World, (binOp .eql 29 (.slice (some ad) l.length c) (.slice none 0 0)).run Try.prog w = .ok (.bool false) w := fun w => by kernel_rfl
    go_enter Try.func55, Try.ntmps55
    go_wp2_with (at_builtin; refine wpList_app rfl _ _ rfl w.heap.size _ _ [] l rfl (OW.empty w _ (Nat.le_refl _)) rfl (HR.out.keep ((Below.refl _ _).alloc (Nat.le_refl _) _)) (by simp; omega) (by simp) ?_)
    intro v' w' h1 h2 h3
    have H1 := Lib.hid h1; have H2 := Lib.hid (((Below.refl w.heap.size w).alloc (Nat.le_refl _) _).grown h2 (by simp) (fun k hk => by
      have : w.heap.size = k := by simpa [Value.ownBlock] using hk
      omega))
    clear h1 h2 h3
    go_wp2
    go_ret
    exact ⟨_, rfl, H1.out, H2.out⟩
end Go.Proofs.Ytkgdnlknnjiglaa

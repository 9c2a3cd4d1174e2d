/- Contract of the reader's end: what was read is taken as a statement. -/
import Derived.Test.YtdandmbgdndnjaaGreatDoorSrcT
import Derived.Deep.RegionLaw
import Derived.Deep.RegionLawGrows
import Derived.Deep.AppendLies
namespace Go.Proofs.YtdandmbgdndnjaaGreatDoor
open Go.RowKit

/-- A statement: its label, its text, its line. -/
abbrev St := Nat × List UInt8 × Nat
def scells (l : List St) : List Value := l.flatMap fun s => [.int .i64 (s.1 : Int), .string ⟨s.2.1.toArray⟩, .int .i64 (s.2.2 : Int)]
theorem scells_app (a b : List St) : scells (a ++ b) = scells a ++ scells b := by simp [scells]
theorem info34 : (Tryz.prog.info? 34).map (fun i => (i.zero, i.size, i.bytes)) = some (some (.agg #[.int .i64 0, .string ⟨#[]⟩, .int .i64 0]), 3, 32) := by kernel_rfl
/-- The statements, and the least wrong line, behind the end of a draft. -/
def enS (sts : List St) (lab at_ : Nat) (L : List UInt8) : List St :=
  if (Lib.trimB L 32).isEmpty && lab == 0 then sts else if isStB (Lib.trimB L 32) then sts ++ [(lab, Lib.trimB L 32, at_)] else sts
def enW (l lab at_ : Nat) (L : List UInt8) : Nat :=
  if (Lib.trimB L 32).isEmpty && lab == 0 then l else if isStB (Lib.trimB L 32) then l else wrN l at_

/-- What end leaves. -/
def EndPost (rb B0 : Nat) (ls ss : Value) (sts : List St) (l : Nat) (w : World) (e : Ending) (w' : World) : Prop :=
  ∃ ss', e = .returned (.tuple #[]) ∧ Has w' rb [ls, ss', .int .i64 (l : Int)] ∧ w'.ownsRow B0 34 3 ss' sts.length (scells sts) ∧
    (ss'.ownBlock = ss.ownBlock ∨ ∃ g, w.heap.size ≤ g ∧ ss'.ownBlock = some g) ∧ KB w w' (fun k => k = rb ∨ some k = ss.ownBlock)

theorem trimB_len (L : List UInt8) (c : UInt8) : (Lib.trimB L c).length ≤ L.length := by
  unfold Lib.trimB Lib.trimLeftB Lib.trimRightB
  have h1 := (List.dropWhile_sublist (l := (L.reverse.dropWhile (· == c)).reverse) (fun x => x == c)).length_le
  have h2 := (List.dropWhile_sublist (l := L.reverse) (fun x => x == c)).length_le
  simp at h1 h2 ⊢
  omega

theorem own_kb {w w' : World} {b rb : Nat} {e : TypeId} {sz n : Nat} {v : Value} {xs : List Value} (h : w.ownsRow b e sz v n xs) (hk : KB w w' (fun k => k = rb)) (hb : rb < b) : w'.ownsRow b e sz v n xs := by
  have hlt := h.lt
  refine ⟨h.1, ?_⟩
  rcases h.2 with h0 | ⟨g, cap, cur, rfl, hg, hc, hr⟩
  · exact .inl h0
  · exact .inr ⟨g, cap, cur, rfl, hg, (hk.block g (hlt g rfl).2 (by omega)).trans hc, hr⟩

theorem end_fin {rb B0 gg cap l lab at_ : Nat} {ls ss : Value} {sts : List St} {t : ByteArray} {w w2 w3 : World} {ob : Obj} {e : Ending}
    (hown1 : w3.ownsRow B0 34 3 (.slice (some ⟨gg, 0, none⟩) (sts.length + 1) cap) (sts.length + 1) (scells sts ++ [.int .i64 (lab : Int), .string t, .int .i64 (at_ : Int)]))
    (hgrow : (w2.drew.alloc ob).grownBy w3 ss.ownBlock) (hat : ss.ownBlock = some gg ∨ gg = w2.heap.size + 1) (H : Has w2 rb [ls, ss, .int .i64 (l : Int)]) (hner : ss.ownBlock ≠ some rb) (hBB : Below w.heap.size w w2)
    (hrb : rb < B0) (he : e = .returned (.tuple #[])) :
    EndPost rb B0 ls ss (sts ++ [(lab, t.data.toList, at_)]) l w e (w3.setCell ⟨rb, 1, none⟩ (.slice (some ⟨gg, 0, none⟩) (sts.length + 1) cap)) := by
  have hs := hBB.size
  have k1 : KB w2 (w2.drew.alloc ob) (fun k => k = rb ∨ some k = ss.ownBlock) := KB.of_below _ ((Below.refl _ w2).drew.alloc (Nat.le_refl _) ob) (Nat.le_refl _)
  have k2 : KB (w2.drew.alloc ob) w3 (fun k => k = rb ∨ some k = ss.ownBlock) := KB.of_grown hgrow fun k e => Or.inr e
  have k0 : KB w w2 (fun k => k = rb ∨ some k = ss.ownBlock) := KB.of_below _ hBB (Nat.le_refl _)
  have hH : Has w3 rb [ls, ss, .int .i64 (l : Int)] := ((H.drew).alloc ob).kb (KB.of_grown (S := fun k => some k = ss.ownBlock) hgrow (fun k e => e)) (fun e => hner e.symm)
  refine ⟨_, he, hH.set (i := 1), ?_, ?_, ((k0.trans k1).trans k2).trans (KB.set _ (Or.inl rfl))⟩
  · have h := own_kb (w' := w3.setCell ⟨rb, 1, none⟩ (.slice (some ⟨gg, 0, none⟩) (sts.length + 1) cap)) (rb := rb) hown1 (KB.set _ rfl) hrb
    rw [scells_app, List.length_append]
    have e1 : scells [(lab, t.data.toList, at_)] = [.int .i64 (lab : Int), .string t, .int .i64 (at_ : Int)] := by simp only [scells, List.flatMap_cons, List.flatMap_nil, List.append_nil, Lib.mk_data]
    rw [e1]
    exact h
  · rcases hat with h | h
    · exact Or.inl (by rw [h]; rfl)
    · exact Or.inr ⟨gg, by omega, rfl⟩

set_option maxRecDepth 100000 in
set_option maxHeartbeats 2000000 in
theorem end_c (rb B0 : Nat) (ls ss : Value) (sts : List St) (l lab at_ : Nat) (tx : ByteArray) (o : Nat) (w : World) (h : Has w rb [ls, ss, .int .i64 (l : Int)]) (ho : w.ownsRow B0 34 3 ss sts.length (scells sts))
    (hrb : rb < B0) (hB0 : B0 ≤ w.heap.size) (hl : l ≤ 1000000) (htx : tx.size ≤ 1000000) (hn : sts.length ≤ 100000) :
    Calls Tryz.prog 69 #[.pointer (some ⟨rb, 0, none⟩), .agg #[.int .i64 (lab : Int), .int .i64 (at_ : Int), .string tx, .int .u8 (o : Int)]] w
      (EndPost rb B0 ls ss (enS sts lab at_ tx.data.toList) (enW l lab at_ tx.data.toList) w) := by
  obtain ⟨t, ht⟩ : ∃ t : ByteArray, t = ⟨(Lib.trimB tx.data.toList 32).toArray⟩ := ⟨_, rfl⟩
  have htl : t.data.toList = Lib.trimB tx.data.toList 32 := by rw [ht]
  have hts : t.size ≤ 1000000 := by
    have := trimB_len tx.data.toList 32
    rw [← htl, data_len, data_len] at this
    omega
  have HT := Lib.hid (fun wx => Tryz.strings_Trim_one tx 32 (by decide) wx (by omega))
  have Ht := Lib.hid ht
  have Htl := Lib.hid htl
  have H := Lib.hid h
  have Ho := Lib.hid ho
  clear ht htl h ho
  generalize hbx : Obj.cells #[.int .i64 (lab : Int), .int .i64 (at_ : Int), .string tx, .int .u8 (o : Int)] 82 = bx
  have HN := Lib.hid (show Has (w.alloc bx) w.heap.size [.int .i64 (lab : Int), .int .i64 (at_ : Int), .string tx, .int .u8 (o : Int)] from by rw [← hbx]; exact Has.new w _ 82)
  have HD := fun (w1 : World) (hw : w1 = w.alloc bx ∨ w1 = (w.alloc bx).drew) => show Below w.heap.size w w1 ∧ Has w1 w.heap.size [.int .i64 (lab : Int), .int .i64 (at_ : Int), .string tx, .int .u8 (o : Int)] by
    rcases hw with rfl | rfl
    · exact ⟨(Below.refl _ _).alloc (Nat.le_refl _) _, HN.out⟩
    · exact ⟨((Below.refl _ _).alloc (Nat.le_refl _) _).drew, HN.out.drew⟩
  subst hbx
  have HD := Lib.hid HD
  clear HN
  by_cases hA : t.toList = [] ∧ lab = 0
  · obtain ⟨h1, h2⟩ := hA
    have e1 : ((Lib.trimB tx.data.toList 32).isEmpty && lab == 0) = true := by rw [← Htl.out, ← Lib.toList_data, h1, h2]; rfl
    have e2 : enS sts lab at_ tx.data.toList = sts := by unfold enS; rw [if_pos e1]
    have e3 : enW l lab at_ tx.data.toList = l := by unfold enW; rw [if_pos e1]
    rw [e2, e3]
    have f1 : t.toList.isEmpty = true := by rw [h1]; rfl
    have f2 : ((lab : Int) == 0) = true := by simp; omega
    clear e1 e2 e3 h2
    go_enter Tryz.func69, Tryz.ntmps69
    go_wp2_with fail
    refine (HT.out _).mono ?_
    rw [← Ht.out]
    rintro e w1 ⟨rfl, hw⟩
    obtain ⟨hB, hbox⟩ := HD.out w1 hw
    obtain ⟨c0, c1, c2, c3⟩ := hbox.c4
    clear hw
    have hbx := Lib.hid hbox
    clear hbox
    go_wp2
    refine bodyPost_ret (results_none rfl _ _ _) rfl ?_
    exact ⟨ss, rfl, H.out.keep hB, own_below Ho.out hB, Or.inl rfl, KB.of_below _ hB (Nat.le_refl _)⟩
  · have e1 : ((Lib.trimB tx.data.toList 32).isEmpty && lab == 0) = false := by
      rw [← Htl.out, ← Lib.toList_data, Bool.and_eq_false_iff]
      by_cases h1 : t.toList = []
      · exact Or.inr (by simpa using fun h2 => hA ⟨h1, h2⟩)
      · exact Or.inl (List.isEmpty_eq_false_iff.2 h1)
    have e2 : enS sts lab at_ tx.data.toList = if isStB t.data.toList then sts ++ [(lab, t.data.toList, at_)] else sts := by unfold enS; rw [e1, Htl.out]; rfl
    have e3 : enW l lab at_ tx.data.toList = if isStB t.data.toList then l else wrN l at_ := by unfold enW; rw [e1, Htl.out]; rfl
    rw [e2, e3]
    clear e1 e2 e3
    have hS := Lib.hid (fun wx => isStatement_c t hts wx)
    generalize isStB t.data.toList = b at *
    have hcase : t.toList.isEmpty = false ∨ (t.toList.isEmpty = true ∧ ((lab : Int) == 0) = false) := by
      by_cases h1 : t.toList = []
      · refine Or.inr ⟨by rw [h1]; rfl, ?_⟩
        simp only [beq_eq_false_iff_ne]
        intro h2
        exact hA ⟨h1, by omega⟩
      · exact Or.inl (List.isEmpty_eq_false_iff.2 h1)
    clear hA
    cases b
    · rw [if_neg (by decide), if_neg (by decide)]
      rcases hcase with f1 | ⟨f1, f2⟩
      all_goals
        go_enter Tryz.func69, Tryz.ntmps69
        go_wp2_with fail
        refine (HT.out _).mono ?_
        rw [← Ht.out]
        rintro e w1 ⟨rfl, hw⟩
        obtain ⟨hB, hbox⟩ := HD.out w1 hw
        clear hw
        obtain ⟨c0, c1, c2, c3⟩ := hbox.c4
        have Hbx := Lib.hid hbox
        clear hbox
        go_wp2_with fail
        refine (hS.out _).mono ?_
        rintro e w2 ⟨rfl, hB2⟩
        have hBB := bt_ hB hB2
        obtain ⟨d0, d1, d2, d3⟩ := (Hbx.out.keep hB2).c4
        clear c0 c1 c2 c3
        go_wp2_with fail
        refine (wrong_c rb _ _ l at_ w2 (H.out.keep hBB) hl).mono ?_
        rintro e w3 ⟨rfl, hh, hk⟩
        have hk2 := (KB.of_below (fun k => k = rb) hBB (Nat.le_refl _)).trans hk
        have hown : w3.ownsRow B0 34 3 ss sts.length (scells sts) := own_kb (own_below Ho.out hBB) hk (by omega)
        clear d0 d1 d2 d3 hk
        go_wp2
        refine bodyPost_ret (results_none rfl _ _ _) rfl ?_
        exact ⟨ss, rfl, hh, hown, Or.inl rfl, hk2.mono fun k hk => Or.inl hk⟩
    · rw [if_pos rfl, if_pos rfl]
      rcases hcase with f1 | ⟨f1, f2⟩
      all_goals
        go_enter Tryz.func69, Tryz.ntmps69
        go_wp2_with fail
        refine (HT.out _).mono ?_
        rw [← Ht.out]
        rintro e w1 ⟨rfl, hw⟩
        obtain ⟨hB, hbox⟩ := HD.out w1 hw
        clear hw
        obtain ⟨c0, c1, c2, c3⟩ := hbox.c4
        have Hbx := Lib.hid hbox
        clear hbox
        go_wp2_with fail
        refine (hS.out _).mono ?_
        rintro e w2 ⟨rfl, hB2⟩
        have hBB := bt_ hB hB2
        obtain ⟨d0, d1, d2, d3⟩ := (Hbx.out.keep hB2).c4
        clear c0 c1 c2 c3
        have hrbl : rb < w2.heap.size := by have := hBB.size; omega
        have Hr := Lib.hid (H.out.keep hBB)
        obtain ⟨r0, r1, r2⟩ := Hr.out.c3
        obtain ⟨g0, g1, g2⟩ := Hr.out.f3
        clear r0 r2 g0 g2
        have hown : w2.ownsRow B0 34 3 ss sts.length (scells sts) := own_below Ho.out hBB
        have hlt := hown.lt
        have hne : ss.ownBlock ≠ some w.heap.size := by
          intro e
          have := (Ho.out.lt _ e).2
          omega
        have hner : ss.ownBlock ≠ some rb := by
          intro e
          have := (Ho.out.lt _ e).1
          omega
        have hn0 : w.heap.size < w2.heap.size := World.block_lt_of_cell? w2 _ d0
        have hs2 := hBB.size
        obtain ⟨i0, hi0, hz0, hz1, hz2⟩ := info_parts info34
        clear hlt
        go_wp2_with fail
        go_region_law
          ((refine step_append_lies _ (by rfl) _ _ _ (by rfl) B0 34 i0 _ 3 32 Tryz.underlying22 hi0 hz0 hz1 hz2 rfl (by omega) ss sts.length (scells sts) (by rfl) ((hown.alloc _).drew)
              ⟨w2.heap.size, 0, none⟩ 1 1 [.int .i64 (lab : Int), .string t, .int .i64 (at_ : Int)] (by rfl) (by rfl) (World.news_of_block (cs := #[.int .i64 (lab : Int), .string t, .int .i64 (at_ : Int)]) (t := 34) (fr := (0, 0)) (heap_alloc_new w2 _)) (by simp [Value.oneCell'])
              (by omega) (by unfold maxLen; omega) (by omega) (by simp; omega) (w2.heap.size + 1) (by simp) ?_; intro gg cap w3 hown1 hgrow hat hlt; have s1 : w3.cell? ⟨rb, 1, none⟩ = some ss := ((hgrow.cell_far _ (by simp; omega) (Ne.symm hner)).trans (World.cell?_alloc_past _ rb 1 hrbl)).trans r1; have s2 : w3.frozen? ⟨rb, 1, none⟩ = false := ((hgrow.frozen_far _ (by simp; omega) (Ne.symm hner)).trans (World.frozen?_alloc_past _ rb 1 hrbl)).trans g1))
        all_goals
          go_end0
          exact end_fin hown1 hgrow hat Hr.out hner hBB hrb rfl
end Go.Proofs.YtdandmbgdndnjaaGreatDoor

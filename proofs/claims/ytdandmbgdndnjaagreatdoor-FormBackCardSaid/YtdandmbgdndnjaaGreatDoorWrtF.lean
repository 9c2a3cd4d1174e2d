/- Contracts of write, WriteNew and WriteOld. -/
import Derived.Test.YtdandmbgdndnjaaGreatDoorWrtE
namespace Go.Proofs.YtdandmbgdndnjaaGreatDoor
open Go.RowKit

theorem flat_step {f : Ln → List UInt8} {l : List Ln} {k : Nat} {x : Ln} (h : l[k]? = some x) : (l.take (k + 1)).flatMap f = (l.take k).flatMap f ++ f x := by
  rw [List.take_add_one, h, List.flatMap_append]; simp
theorem flat_len {f : Ln → List UInt8} {l : List Ln} (hf : ∀ x, okL x = true → (f x).length ≤ 20000) (hok : ∀ x ∈ l, okL x = true) : ∀ k, ((l.take k).flatMap f).length ≤ 20000 * l.length := by
  intro k
  have key : ∀ m : List Ln, (∀ x ∈ m, okL x = true) → (m.flatMap f).length ≤ 20000 * m.length := by
    intro m
    induction m with
    | nil => intro _; simp
    | cons x m ih =>
      intro h
      have h1 := hf x (h x (by simp))
      have h2 := ih fun y hy => h y (by simp [hy])
      rw [List.flatMap_cons, List.length_append, List.length_cons]
      omega
  have h1 := key (l.take k) fun x hx => hok x (List.mem_of_mem_take hx)
  have h2 := List.length_take_le k l
  have h3 : (l.take k).length ≤ l.length := by rw [List.length_take]; omega
  have := Nat.mul_le_mul_left 20000 h3
  omega
theorem IB.new {B : Nat} {w : World} (hB : B ≤ w.heap.size) : IB B w.heap.size [] (w.alloc (.cells #[.pointer none, .slice none 0 0] 51)) :=
  Or.inl ⟨hB, .slice none 0 0, heap_alloc_new w _, World.ownsRow_nil _ _ _ _, by simp [Value.ownBlock]⟩

set_option maxRecDepth 100000 in
set_option maxHeartbeats 4000000 in
theorem writeNew_c (v : Value) (l : List Ln) (w : World) (hT : TW w) (h : RL w v l) :
    Calls Tryz.prog 23 #[v, .func (.func 24) #[] #[]] w fun e w' => e = .returned (.tuple #[.string ⟨(wrA (vlB l) (l.flatMap nwS)).1.toArray⟩, .int .i64 ((wrA (vlB l) (l.flatMap nwS)).2 : Int)]) ∧ Below w.heap.size w w' := by
  have hV := Lib.hid (Valid_c v l w h)
  obtain ⟨A, cap, rfl, hmx, _⟩ := id h
  have H := Lib.hid h
  have HT := Lib.hid hT
  clear h hT
  generalize hq : vlB l = q
  have Hq := Lib.hid hq
  rw [hq] at hV
  cases q
  · have HW := Lib.hid (show wrA false (l.flatMap nwS) = ([], 2) from rfl)
    clear hq
    go_enter Tryz.func23, Tryz.ntmps23
    go_wp2_with fail
    refine hV.out.mono ?_
    rintro e w1 ⟨rfl, hB⟩
    go_wp2
    go_ret2
    rw [HW.out]
    exact ⟨rfl, hB⟩
  · have hok : ∀ x ∈ l, okL x = true := by
      unfold vlB at hq
      rw [Bool.and_eq_true] at hq
      exact fun x hx => List.all_eq_true.1 hq.2 x hx
    have hl2 : l.length ≤ 200 := by
      unfold vlB at hq
      rw [Bool.and_eq_true] at hq
      exact of_decide_eq_true hq.1
    have Hok := Lib.hid hok
    have Hfl := Lib.hid (fun k => flat_len (f := nwS) (fun x hx => nwS_len hx) hok k)
    obtain ⟨bs, hbs⟩ : ∃ bs : List UInt8, bs = l.flatMap nwS := ⟨_, rfl⟩
    rw [← hbs]
    have Hbs := Lib.hid hbs
    clear hq hok hbs
    go_enter Tryz.func23, Tryz.ntmps23
    go_wp2_with fail
    refine hV.out.mono ?_
    rintro e w1 ⟨rfl, hB⟩
    have hBs := hB.size
    have hB1 := hB.alloc hBs (.cells #[.pointer none, .slice none 0 0] 51)
    have HI0 := Lib.hid (IB.new (B := w.heap.size) (w := w1) hBs)
    clear hV
    go_wp2_with fail
    go_loopw [16] (fun t wr => ∃ k : Nat, k ≤ l.length ∧ t = .int .i64 (k : Int) ∧ IB w.heap.size w1.heap.size ((l.take k).flatMap nwS) wr ∧ Below w.heap.size w wr) (fun t _ => l.length - (intOf t).toNat)
    case atStart => exact ⟨0, by omega, rfl, HI0.out, hB1⟩
    case round =>
      obtain ⟨k, hk, rfl, hI, hBw⟩ := hrel
      have hk0 : (0 : Int) ≤ (k : Int) := by omega
      have hws := hBw.size
      by_cases hlt : k < l.length
      · obtain ⟨x, hx⟩ : ∃ x, l[k]? = some x := ⟨_, List.getElem?_eq_getElem hlt⟩
        obtain ⟨bb, o, rfl, c0, c1, c2⟩ := (H.out.keep hBw).at hx
        have hxo : okL x = true := Hok.out x (List.mem_of_getElem? hx)
        have Hst := Lib.hid (flat_step (f := nwS) hx)
        obtain ⟨x0, x1, x2⟩ := x
        simp only at c0 c1 c2
        have hBx : Below wr.heap.size wr (wr.alloc (.cells #[.int .i64 x0, .string x1, .int .i64 x2] 34)) := (Below.refl _ _).alloc (Nat.le_refl _) _
        have HIx := Lib.hid (hI.keep hBx)
        have HTx := Lib.hid ((HT.out.keep hBw HT.out.lt).keep hBx (by have := HT.out.lt; omega))
        have hfl := Hfl.out k
        have HC := Lib.hid (cutNew_c w.heap.size w1.heap.size ((l.take k).flatMap nwS) x0 x1 x2 _ hxo HTx.out HIx.out (by omega) (by simp; omega))
        have hBy := hBw.alloc hws (.cells #[.int .i64 x0, .string x1, .int .i64 x2] 34)
        have hbx := Has.new wr [.int .i64 x0, .string x1, .int .i64 x2] 34
        obtain ⟨d0, d1, d2⟩ := hbx.c3
        clear hx hI hbx hBx
        go_wp2_with fail
        refine HC.out.mono ?_
        rw [← Hst.out]
        rintro e w5 ⟨rfl, hI5, hB5⟩
        have hBB := hBy.trans hB5
        have HI5 := Lib.hid hI5
        clear hI5 hB5 hBy
        go_wp2
        go_roundw
        case rel => exact ⟨k + 1, by omega, by go_num, HI5.out, hBB⟩
        case measure => simp [intOf]; omega
      · obtain rfl : k = l.length := by omega
        rw [List.take_length] at hI
        have hfl := Hfl.out l.length
        rw [List.take_length, ← Hbs.out] at hfl
        rw [← Hbs.out] at hI
        have HLn := Lib.hid (Tryz.Builder_Len w.heap.size w1.heap.size _ wr hI)
        have HSt := Lib.hid (Tryz.Builder_String_any w.heap.size w1.heap.size _ wr hI hws)
        have HB := Lib.hid hBw
        rw [Lib.byteCells_length] at HLn
        clear hI hBw
        by_cases h8 : 8000 < bs.length
        · have g1 : decide ((8000 : Int) < (bs.length : Int)) = true := by simp; omega
          have g2 : decide (8000 < bs.length) = true := by simp; omega
          have HW := Lib.hid (show wrA true bs = ([], 4) by unfold wrA; rw [if_neg (by decide), if_pos h8])
          clear h8
          go_wp2_with fail
          refine HLn.out.mono ?_
          rintro e w6 ⟨rfl, rfl⟩
          go_wp2
          go_ret2
          rw [HW.out]
          exact ⟨rfl, HB.out⟩
        · have g1 : decide ((8000 : Int) < (bs.length : Int)) = false := by simp; omega
          have g2 : decide (8000 < bs.length) = false := by simp; omega
          have HW := Lib.hid (show wrA true bs = (bs, 0) by unfold wrA; rw [if_neg (by decide), if_neg h8])
          clear h8
          go_wp2_with fail
          refine HLn.out.mono ?_
          rintro e w6 ⟨rfl, rfl⟩
          go_wp2_with fail
          refine HSt.out.mono ?_
          rintro e w7 ⟨rfl, hB7⟩
          go_wp2
          go_ret2
          rw [HW.out]
          exact ⟨rfl, HB.out.trans hB7⟩

set_option maxRecDepth 100000 in
set_option maxHeartbeats 4000000 in
theorem writeOld_c (v : Value) (l : List Ln) (w : World) (hT : TW w) (h : RL w v l) :
    Calls Tryz.prog 23 #[v, .func (.func 26) #[] #[]] w fun e w' => e = .returned (.tuple #[.string ⟨(wrA (vlB l) (l.flatMap owS)).1.toArray⟩, .int .i64 ((wrA (vlB l) (l.flatMap owS)).2 : Int)]) ∧ Below w.heap.size w w' := by
  have hV := Lib.hid (Valid_c v l w h)
  obtain ⟨A, cap, rfl, hmx, _⟩ := id h
  have H := Lib.hid h
  have HT := Lib.hid hT
  clear h hT
  generalize hq : vlB l = q
  have Hq := Lib.hid hq
  rw [hq] at hV
  cases q
  · have HW := Lib.hid (show wrA false (l.flatMap owS) = ([], 2) from rfl)
    clear hq
    go_enter Tryz.func23, Tryz.ntmps23
    go_wp2_with fail
    refine hV.out.mono ?_
    rintro e w1 ⟨rfl, hB⟩
    go_wp2
    go_ret2
    rw [HW.out]
    exact ⟨rfl, hB⟩
  · have hok : ∀ x ∈ l, okL x = true := by
      unfold vlB at hq
      rw [Bool.and_eq_true] at hq
      exact fun x hx => List.all_eq_true.1 hq.2 x hx
    have hl2 : l.length ≤ 200 := by
      unfold vlB at hq
      rw [Bool.and_eq_true] at hq
      exact of_decide_eq_true hq.1
    have Hok := Lib.hid hok
    have Hfl := Lib.hid (fun k => flat_len (f := owS) (fun x hx => owS_len hx) hok k)
    obtain ⟨bs, hbs⟩ : ∃ bs : List UInt8, bs = l.flatMap owS := ⟨_, rfl⟩
    rw [← hbs]
    have Hbs := Lib.hid hbs
    clear hq hok hbs
    go_enter Tryz.func23, Tryz.ntmps23
    go_wp2_with fail
    refine hV.out.mono ?_
    rintro e w1 ⟨rfl, hB⟩
    have hBs := hB.size
    have hB1 := hB.alloc hBs (.cells #[.pointer none, .slice none 0 0] 51)
    have HI0 := Lib.hid (IB.new (B := w.heap.size) (w := w1) hBs)
    clear hV
    go_wp2_with fail
    go_loopw [16] (fun t wr => ∃ k : Nat, k ≤ l.length ∧ t = .int .i64 (k : Int) ∧ IB w.heap.size w1.heap.size ((l.take k).flatMap owS) wr ∧ Below w.heap.size w wr) (fun t _ => l.length - (intOf t).toNat)
    case atStart => exact ⟨0, by omega, rfl, HI0.out, hB1⟩
    case round =>
      obtain ⟨k, hk, rfl, hI, hBw⟩ := hrel
      have hk0 : (0 : Int) ≤ (k : Int) := by omega
      have hws := hBw.size
      by_cases hlt : k < l.length
      · obtain ⟨x, hx⟩ : ∃ x, l[k]? = some x := ⟨_, List.getElem?_eq_getElem hlt⟩
        obtain ⟨bb, o, rfl, c0, c1, c2⟩ := (H.out.keep hBw).at hx
        have hxo : okL x = true := Hok.out x (List.mem_of_getElem? hx)
        have Hst := Lib.hid (flat_step (f := owS) hx)
        obtain ⟨x0, x1, x2⟩ := x
        simp only at c0 c1 c2
        have hBx : Below wr.heap.size wr (wr.alloc (.cells #[.int .i64 x0, .string x1, .int .i64 x2] 34)) := (Below.refl _ _).alloc (Nat.le_refl _) _
        have HIx := Lib.hid (hI.keep hBx)
        have HTx := Lib.hid ((HT.out.keep hBw HT.out.lt).keep hBx (by have := HT.out.lt; omega))
        have hfl := Hfl.out k
        have HC := Lib.hid (cutOld_c w.heap.size w1.heap.size ((l.take k).flatMap owS) x0 x1 x2 _ hxo HTx.out HIx.out (by omega) (by simp; omega))
        have hBy := hBw.alloc hws (.cells #[.int .i64 x0, .string x1, .int .i64 x2] 34)
        have hbx := Has.new wr [.int .i64 x0, .string x1, .int .i64 x2] 34
        obtain ⟨d0, d1, d2⟩ := hbx.c3
        clear hx hI hbx hBx
        go_wp2_with fail
        refine HC.out.mono ?_
        rw [← Hst.out]
        rintro e w5 ⟨rfl, hI5, hB5⟩
        have hBB := hBy.trans hB5
        have HI5 := Lib.hid hI5
        clear hI5 hB5 hBy
        go_wp2
        go_roundw
        case rel => exact ⟨k + 1, by omega, by go_num, HI5.out, hBB⟩
        case measure => simp [intOf]; omega
      · obtain rfl : k = l.length := by omega
        rw [List.take_length] at hI
        have hfl := Hfl.out l.length
        rw [List.take_length, ← Hbs.out] at hfl
        rw [← Hbs.out] at hI
        have HLn := Lib.hid (Tryz.Builder_Len w.heap.size w1.heap.size _ wr hI)
        have HSt := Lib.hid (Tryz.Builder_String_any w.heap.size w1.heap.size _ wr hI hws)
        have HB := Lib.hid hBw
        rw [Lib.byteCells_length] at HLn
        clear hI hBw
        by_cases h8 : 8000 < bs.length
        · have g1 : decide ((8000 : Int) < (bs.length : Int)) = true := by simp; omega
          have g2 : decide (8000 < bs.length) = true := by simp; omega
          have HW := Lib.hid (show wrA true bs = ([], 4) by unfold wrA; rw [if_neg (by decide), if_pos h8])
          clear h8
          go_wp2_with fail
          refine HLn.out.mono ?_
          rintro e w6 ⟨rfl, rfl⟩
          go_wp2
          go_ret2
          rw [HW.out]
          exact ⟨rfl, HB.out⟩
        · have g1 : decide ((8000 : Int) < (bs.length : Int)) = false := by simp; omega
          have g2 : decide (8000 < bs.length) = false := by simp; omega
          have HW := Lib.hid (show wrA true bs = (bs, 0) by unfold wrA; rw [if_neg (by decide), if_neg h8])
          clear h8
          go_wp2_with fail
          refine HLn.out.mono ?_
          rintro e w6 ⟨rfl, rfl⟩
          go_wp2_with fail
          refine HSt.out.mono ?_
          rintro e w7 ⟨rfl, hB7⟩
          go_wp2
          go_ret2
          rw [HW.out]
          exact ⟨rfl, HB.out.trans hB7⟩

set_option maxHeartbeats 1000000 in
theorem WriteNew_c (v : Value) (l : List Ln) (w : World) (hT : TW w) (h : RL w v l) :
    Calls Tryz.prog 10 #[v] w fun e w' => e = .returned (.tuple #[.string ⟨(wrA (vlB l) (l.flatMap nwS)).1.toArray⟩, .int .i64 ((wrA (vlB l) (l.flatMap nwS)).2 : Int)]) ∧ Below w.heap.size w w' := by
  have H := Lib.hid (writeNew_c v l w hT h)
  clear hT h
  go_enter Tryz.func10, Tryz.ntmps10
  go_wp2_with fail
  refine H.out.mono ?_
  rintro e w1 ⟨rfl, hB⟩
  go_wp2
  go_ret2
  exact ⟨rfl, hB⟩

set_option maxHeartbeats 1000000 in
theorem WriteOld_c (v : Value) (l : List Ln) (w : World) (hT : TW w) (h : RL w v l) :
    Calls Tryz.prog 12 #[v] w fun e w' => e = .returned (.tuple #[.string ⟨(wrA (vlB l) (l.flatMap owS)).1.toArray⟩, .int .i64 ((wrA (vlB l) (l.flatMap owS)).2 : Int)]) ∧ Below w.heap.size w w' := by
  have H := Lib.hid (writeOld_c v l w hT h)
  clear hT h
  go_enter Tryz.func12, Tryz.ntmps12
  go_wp2_with fail
  refine H.out.mono ?_
  rintro e w1 ⟨rfl, hB⟩
  go_wp2
  go_ret2
  exact ⟨rfl, hB⟩
end Go.Proofs.YtdandmbgdndnjaaGreatDoor

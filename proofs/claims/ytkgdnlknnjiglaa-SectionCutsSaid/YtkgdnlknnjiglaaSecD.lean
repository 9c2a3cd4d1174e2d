/- Contracts of Same, of product and size of extents. -/
import Derived.Test.YtkgdnlknnjiglaaSecC
namespace Go.Proofs.Ytkgdnlknnjiglaa
open Go.RowKit

theorem ret_ib {a b : Int} {c d : Bool} (h : a = b) (h2 : c = d) : Ending.returned (.tuple #[.int .i64 a, .bool c]) = .returned (.tuple #[.int .i64 b, .bool d]) := by rw [h, h2]
theorem mem_take {l : List Int} {k : Nat} {e : Int} (h : e ∈ l.take k) : e ∈ l := List.mem_of_mem_take h
/-- Extents looked at one by one. -/
def fineE (l : List Int) : Prop := ∀ e ∈ l, 0 ≤ e ∧ e ≤ 4000
theorem fine_snoc {l : List Int} {k : Nat} {x : Int} (h : fineE (l.take k)) (hx : l[k]? = some x) (h0 : 0 ≤ x) (h1 : x ≤ 4000) : fineE (l.take (k + 1)) := by
  intro e he
  rw [List.take_add_one, hx] at he
  rcases List.mem_append.1 he with he | he
  · exact h e he
  · simp at he; omega
theorem okE_len {l : List Int} (h : 3 < l.length) : okE l = false := by
  rw [Bool.eq_false_iff]; intro h1; have := (okE_iff.1 h1).1; omega
theorem okE_bad {l : List Int} {k : Nat} {x : Int} (hx : l[k]? = some x) (h : x < 0 ∨ 4000 < x) : okE l = false := by
  rw [Bool.eq_false_iff]; intro h1; have := (okE_iff.1 h1).2.1 x (List.mem_of_getElem? hx); omega
theorem okE_big {l : List Int} (h : 4000 < pr l) : okE l = false := by
  rw [Bool.eq_false_iff]; intro h1; have := (okE_iff.1 h1).2.2; omega
theorem mul_small {a b : Int} (h0 : 0 ≤ a) (h1 : a ≤ 64000000000) (h2 : 0 ≤ b) (h3 : b ≤ 4000) : 0 ≤ a * b ∧ a * b ≤ 256000000000000 := by
  refine ⟨Int.mul_nonneg h0 h2, ?_⟩
  have := Int.mul_le_mul h1 h3 h2 (by decide)
  omega
def prodR (l : List Int) : Value := .tuple #[.int .i64 (if okE l = true then pr l else 0), .bool (okE l)]
theorem prodR_no {l : List Int} (h : okE l = false) : prodR l = .tuple #[.int .i64 0, .bool false] := by unfold prodR; rw [h]; rfl
theorem prodR_yes {l : List Int} (h : okE l = true) : prodR l = .tuple #[.int .i64 (pr l), .bool true] := by unfold prodR; rw [h]; rfl
set_option maxRecDepth 100000 in
set_option maxHeartbeats 2000000 in
theorem product_c (v : Value) (l : List Int) (w : World) (h : RI w v l) : Calls Try.prog 46 #[v] w fun e w' => e = .returned (prodR l) ∧ w = w' := by
  obtain ⟨A, cap, rfl, hm, hf, hc⟩ := h
  have NO := Lib.hid (@prodR_no l)
  have YES := Lib.hid (@prodR_yes l)
  have Hf := Lib.hid hf
  clear hf
  by_cases hl : 3 < l.length
  · have f0 : decide ((3 : Int) < (l.length : Int)) = true := by simp; omega
    have f1 : decide (3 < l.length) = true := by simp; omega
    have HF := Lib.hid (NO.out (okE_len hl))
    clear hl
    go_enter Try.func46, Try.ntmps46
    go_wp2
    go_ret2
    exact ⟨congrArg Ending.returned HF.out.symm, rfl⟩
  · have f0 : decide ((3 : Int) < (l.length : Int)) = false := by simp; omega
    have f1 : decide (3 < l.length) = false := by simp; omega
    have HL := Lib.hid hl
    clear hl
    go_enter Try.func46, Try.ntmps46
    go_wp2_with fail
    go_loop [2, 11] (fun n x => ∃ (k : Nat) (q : Int), k ≤ l.length ∧ x = .int .i64 (k : Int) ∧ n = .int .i64 q ∧ q = pr (l.take k) ∧ fineE (l.take k)) (fun _ x => l.length - (intOf x).toNat)
    case atStart => exact ⟨0, 1, by omega, rfl, rfl, rfl, by intro e he; simp at he⟩
    case round =>
      obtain ⟨k, q, hk, rfl, rfl, hq, hfi⟩ := hrel
      have HQ := Lib.hid hq; have HI := Lib.hid hfi
      have hqb := pr_small (l := l.take k) (by rw [List.length_take]; have := HL.out; omega) hfi
      rw [← hq] at hqb
      clear hq hfi
      by_cases hlt : k < l.length
      · obtain ⟨b, o', rfl, hr⟩ := hc (by omega)
        obtain ⟨x, hx⟩ : ∃ t, l[k]? = some t := ⟨_, List.getElem?_eq_getElem hlt⟩
        have hcell := hr _ _ hx
        have HX := Lib.hid hx
        clear hc hr hx
        by_cases h0 : x < 0
        · have HF := Lib.hid (NO.out (okE_bad HX.out (Or.inl h0)))
          go_wp2
          go_ret2
          exact ⟨congrArg Ending.returned HF.out.symm, rfl⟩
        · by_cases h1 : 4000 < x
          · have HF := Lib.hid (NO.out (okE_bad HX.out (Or.inr h1)))
            go_wp2
            go_ret2
            exact ⟨congrArg Ending.returned HF.out.symm, rfl⟩
          · have hmul := mul_small hqb.1 hqb.2 (show 0 ≤ x by omega) (show x ≤ 4000 by omega)
            have HN := Lib.hid (fine_snoc HI.out HX.out (by omega) (by omega))
            have HP := Lib.hid (pr_take HX.out)
            go_wp2
            go_round
            case rel => exact ⟨k + 1, q * x, by omega, by go_num, rfl, by rw [HP.out, HQ.out], HN.out⟩
            case measure => simp [intOf]; omega
      · obtain rfl : k = l.length := by omega
        by_cases h4 : 4000 < q
        · have HF := Lib.hid (NO.out (okE_big (by have := HQ.out; rw [List.take_length] at this; omega)))
          go_wp2
          go_ret2
          exact ⟨congrArg Ending.returned HF.out.symm, rfl⟩
        · have HF := Lib.hid (YES.out (by
            have h1 := HQ.out; have h2 := HI.out
            rw [List.take_length] at h1 h2
            exact okE_iff.2 ⟨by have := HL.out; omega, h2, by omega⟩))
          go_wp2
          go_ret2
          exact ⟨congrArg Ending.returned (by rw [HF.out, HQ.out, List.take_length]; rfl), rfl⟩
set_option maxRecDepth 100000 in
set_option maxHeartbeats 2000000 in
theorem rsize_c (v : Value) (l : List Int) (w : World) (h : RI w v l) : Calls Try.prog 50 #[v] w fun e w' => e = .returned (.int .i64 (szE l)) ∧ w = w' := by
  obtain ⟨A, cap, rfl, hm, hf, hc⟩ := h
  obtain ⟨o, ho⟩ : ∃ o, o = szE l := ⟨_, rfl⟩
  have HO := Lib.hid ho
  rw [← ho]
  have Hf := Lib.hid hf
  clear ho hf
  have no : okE l = false → o = -1 := fun h => by rw [HO.out]; unfold szE; rw [if_neg (by rw [h]; decide)]
  have yes : okE l = true → o = pr l := fun h => by rw [HO.out]; unfold szE; rw [if_pos h]
  have NO := Lib.hid no; have YES := Lib.hid yes
  clear no yes
  by_cases hl : 3 < l.length
  · have f0 : decide ((3 : Int) < (l.length : Int)) = true := by simp; omega
    have f1 : decide (3 < l.length) = true := by simp; omega
    have HF := Lib.hid (NO.out (okE_len hl))
    clear hl
    go_enter Try.func50, Try.ntmps50
    go_wp2
    go_ret
    exact ⟨ret_i HF.out.symm, rfl⟩
  · have f0 : decide ((3 : Int) < (l.length : Int)) = false := by simp; omega
    have f1 : decide (3 < l.length) = false := by simp; omega
    have HL := Lib.hid hl
    clear hl
    go_enter Try.func50, Try.ntmps50
    go_wp2_with fail
    go_loop [3, 4] (fun n x => ∃ (k : Nat) (q : Int), k ≤ l.length ∧ x = .int .i64 (k : Int) ∧ n = .int .i64 q ∧ q = pr (l.take k) ∧ fineE (l.take k)) (fun _ x => l.length - (intOf x).toNat)
    case atStart => exact ⟨0, 1, by omega, rfl, rfl, rfl, by intro e he; simp at he⟩
    case round =>
      obtain ⟨k, q, hk, rfl, rfl, hq, hfi⟩ := hrel
      have HQ := Lib.hid hq; have HI := Lib.hid hfi
      have hqb := pr_small (l := l.take k) (by rw [List.length_take]; have := HL.out; omega) hfi
      rw [← hq] at hqb
      clear hq hfi
      by_cases hlt : k < l.length
      · obtain ⟨b, o', rfl, hr⟩ := hc (by omega)
        obtain ⟨x, hx⟩ : ∃ t, l[k]? = some t := ⟨_, List.getElem?_eq_getElem hlt⟩
        have hcell := hr _ _ hx
        have HX := Lib.hid hx
        clear hc hr hx
        by_cases h0 : x < 0
        · have HF := Lib.hid (NO.out (okE_bad HX.out (Or.inl h0)))
          go_wp2
          go_ret
          exact ⟨ret_i HF.out.symm, rfl⟩
        · by_cases h1 : 4000 < x
          · have HF := Lib.hid (NO.out (okE_bad HX.out (Or.inr h1)))
            go_wp2
            go_ret
            exact ⟨ret_i HF.out.symm, rfl⟩
          · have hmul := mul_small hqb.1 hqb.2 (show 0 ≤ x by omega) (show x ≤ 4000 by omega)
            have HN := Lib.hid (fine_snoc HI.out HX.out (by omega) (by omega))
            have HP := Lib.hid (pr_take HX.out)
            go_wp2
            go_round
            case rel => exact ⟨k + 1, q * x, by omega, by go_num, rfl, by rw [HP.out, HQ.out], HN.out⟩
            case measure => simp [intOf]; omega
      · obtain rfl : k = l.length := by omega
        by_cases h4 : 4000 < q
        · have HF := Lib.hid (NO.out (okE_big (by have := HQ.out; rw [List.take_length] at this; omega)))
          go_wp2
          go_ret
          exact ⟨ret_i HF.out.symm, rfl⟩
        · have HF := Lib.hid (YES.out (by
            have h1 := HQ.out; have h2 := HI.out
            rw [List.take_length] at h1 h2
            exact okE_iff.2 ⟨by have := HL.out; omega, h2, by omega⟩))
          go_wp2
          go_ret
          exact ⟨ret_i (by rw [HF.out, HQ.out, List.take_length]), rfl⟩
/-- Whether two descriptors are the same. -/
def sameB (a b : DS) : Bool := decide (a.b = b.b) && (decide (a.ex = b.ex) && decide (a.st = b.st))
theorem same_iff {a b : DS} : sameB a b = true ↔ a = b := by
  obtain ⟨_, _, _⟩ := a; obtain ⟨_, _, _⟩ := b
  unfold sameB; simp
set_option maxRecDepth 100000 in
set_option maxHeartbeats 2000000 in
theorem same_c (v1 v2 : Value) (d1 d2 : DS) (w : World) (h1 : RD w v1 d1) (h2 : RD w v2 d2) :
    Calls Try.prog 26 #[v1, v2] w fun e w' => e = .returned (.bool (sameB d1 d2)) ∧ ∃ u, Below w.heap.size w u ∧ ∃ n, w' = u.drewN n := by
  obtain ⟨e1, s1, rfl, he1, hs1, hf1⟩ := h1
  obtain ⟨e2, s2, rfl, he2, hs2, hf2⟩ := h2
  have HS := Lib.hid (show ∃ t, t = sameB d1 d2 from ⟨_, rfl⟩)
  obtain ⟨t, ht⟩ := HS.out
  have HT := Lib.hid ht
  rw [← ht]
  clear HS ht
  unfold sameB at HT
  obtain ⟨o1, z1⟩ : ∃ o : Obj, o = .cells #[.int .i64 d1.b, e1, s1] 31 := ⟨_, rfl⟩
  obtain ⟨o2, z2⟩ : ∃ o : Obj, o = .cells #[.int .i64 d2.b, e2, s2] 31 := ⟨_, rfl⟩
  have HB := Lib.hid (((Below.refl w.heap.size w).alloc (Nat.le_refl _) o1).alloc (by simp) o2)
  rw [z1, z2] at HB
  have hbb := HB.out
  have CE := Lib.hid (fun wx h => sameInts_c e1 e2 d1.ex d2.ex wx (he1.keep h) (he2.keep h))
  have CS := Lib.hid (fun wx h => sameInts_c s1 s2 d1.st d2.st wx (hs1.keep h) (hs2.keep h))
  clear he1 he2 hs1 hs2 z1 z2 o1 o2 hbb
  generalize hx : decide (d1.ex = d2.ex) = x at *
  generalize hy : decide (d1.st = d2.st) = y at *
  obtain ⟨b1, hb1⟩ : ∃ b, b = d1.b := ⟨_, rfl⟩
  obtain ⟨b2, hb2⟩ : ∃ b, b = d2.b := ⟨_, rfl⟩
  rw [← hb1, ← hb2] at HT HB ⊢
  clear hx hy hb1 hb2 hf1 hf2
  by_cases hb : b1 = b2
  · have f0 : (b1 == b2) = true := by simpa using hb
    rw [decide_eq_true hb] at HT
    clear hb
    cases x <;> cases y
    all_goals
      have H := Lib.hid (show t = _ from HT.out)
      clear HT
      simp only [Bool.and_true, Bool.and_false] at H
      go_enter Try.func26, Try.ntmps26
      go_wp2_with (first | (go_at_call 23; first | ((with_reducible refine (CE.out _ (by first | exact HB.out | exact below_dn HB.out _)).mono ?_); rintro e w' ⟨rfl, nn, rfl⟩) | ((with_reducible refine (CS.out _ (by first | exact HB.out | exact below_dn HB.out _)).mono ?_); rintro e w' ⟨rfl, mm, rfl⟩)) | go_in)
      go_ret
      exact ⟨ret_b H.out.symm, _, HB.out, _, by first | rfl | (rw [World.drewN_drewN])⟩
  · have f0 : (b1 == b2) = false := by simpa using hb
    rw [decide_eq_false hb] at HT
    have H := Lib.hid (show t = false from HT.out)
    clear hb HT
    go_enter Try.func26, Try.ntmps26
    go_wp2
    go_ret
    exact ⟨ret_b H.out.symm, _, HB.out, 0, rfl⟩
end Go.Proofs.Ytkgdnlknnjiglaa

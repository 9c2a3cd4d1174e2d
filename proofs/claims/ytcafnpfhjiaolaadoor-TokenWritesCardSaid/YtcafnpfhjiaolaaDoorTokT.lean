/- Contracts of Same, of both sides: whether two lists of tokens are the same. -/
import Derived.Test.YtcafnpfhjiaolaaDoorTokG
import Derived.RegionTactic
import Derived.Laws.StructEq
import Derived.ChangeAlike
namespace Go.Proofs.YtcafnpfhjiaolaaDoor
open Go.RowKit

/-- A slice that reads as a list of tokens. -/
def RT (w : World) (v : Value) (l : List Tok) : Prop :=
  ∃ A cap, v = .slice A l.length cap ∧ l.length ≤ 9223372036854775807 ∧ (0 < l.length → ∃ b o : Nat, A = some ⟨b, o, none⟩ ∧ ∀ j u, (tcells l)[j]? = some u → w.cell? ⟨b, o + j, none⟩ = some u)
theorem RT.keep {w w' : World} {v : Value} {l : List Tok} (h : RT w v l) (hb : Below w.heap.size w w') : RT w' v l := by
  obtain ⟨A, cap, rfl, hm, hc⟩ := h
  exact ⟨A, cap, rfl, hm, fun h0 => by obtain ⟨b, o, rfl, h1⟩ := hc h0; exact ⟨b, o, rfl, fun j u hu => ck hb (h1 j u hu)⟩⟩
theorem RT.drewN {w : World} {v : Value} {l : List Tok} (h : RT w v l) (k : Nat) : RT (w.drewN k) v l := h
theorem RT.of_own {w : World} {b : Nat} {v : Value} {l : List Tok} (h : w.ownsRow b 30 2 v l.length (tcells l)) : RT w v l := by
  rcases h.2 with ⟨rfl, h1⟩ | ⟨g, cap, cur, rfl, hg, hc, hn, hm, hs, hx⟩
  · exact ⟨none, 0, by rw [h1], by omega, fun h0 => by omega⟩
  · refine ⟨_, cap, rfl, by unfold maxLen at hm; omega, fun _ => ⟨g, 0, rfl, fun j u hu => ?_⟩⟩
    have := h.cells (g := g) rfl j u hu
    rw [Addr.add_lit] at this
    exact this
theorem tcell_at {l : List Tok} {k : Nat} {t : Tok} (h : l[k]? = some t) : (tcells l)[k * 2]? = some (.string t.1) ∧ (tcells l)[k * 2 + 1]? = some (.string ⟨t.2.toArray⟩) := by
  induction l generalizing k with
  | nil => cases h
  | cons a l ih =>
    cases k with
    | zero => simp at h; subst h; exact ⟨rfl, rfl⟩
    | succ k =>
      simp at h
      have := ih h
      have e : tcells (a :: l) = [.string a.1, .string ⟨a.2.toArray⟩] ++ tcells l := rfl
      rw [e]
      have e2 : (k + 1) * 2 = k * 2 + 2 := by omega
      rw [e2]
      exact ⟨by simpa using this.1, by simpa using this.2⟩

theorem neq30 (a b c d : ByteArray) (w : World) : (binOp .neq 30 (.agg #[.string a, .string b]) (.agg #[.string c, .string d])).run Tryd.prog w = .ok (.bool (!((a.toList == c.toList) && (b.toList == d.toList)))) w := by
  have hf : Tryd.prog.underlying 30 = some (.struct (Tryd.prog.fieldsOf 30)) := by kernel_rfl
  have hs : Tryd.prog.stoodInHeld 30 = false := by kernel_rfl
  rw [run_neq_struct, run_equalIn_agg w 9999 30 _ _ hf hs]
  have h1 := Tryd.underlying30
  simp [Program.fieldsOf, h1, Op.eqFields, part, go_sem]
  by_cases h2 : a.toList = c.toList <;> by_cases h3 : b.toList = d.toList <;> simp [h2, h3]
theorem bytes_inj' {a b : ByteArray} (h : a.toList = b.toList) : a = b := by
  rw [Lib.toList_data, Lib.toList_data] at h
  cases a; cases b
  simpa using h
theorem neq_tok (a b : Tok) (w : World) : (binOp .neq 30 (.agg #[.string a.1, .string ⟨a.2.toArray⟩]) (.agg #[.string b.1, .string ⟨b.2.toArray⟩])).run Tryd.prog w = .ok (.bool (decide (a ≠ b))) w := by
  rw [neq30]
  congr 2
  obtain ⟨a1, a2⟩ := a
  obtain ⟨b1, b2⟩ := b
  rw [Bool.eq_iff_iff]
  simp only [Lib.toList_data, Bool.not_eq_true', Bool.and_eq_false_iff, beq_eq_false_iff_ne, ne_eq, decide_eq_true_eq, Prod.mk.injEq]
  have e : a1.data.toList = b1.data.toList ↔ a1 = b1 := ⟨fun h => bytes_inj' (by rw [Lib.toList_data, Lib.toList_data]; exact h), fun h => by rw [h]⟩
  rw [e]
  by_cases h1 : a1 = b1 <;> by_cases h2 : a2 = b2 <;> simp [h1, h2]
theorem take_eq {l1 l2 : List Tok} {k : Nat} {t : Tok} (ht : l1.take k = l2.take k) (h1 : l1[k]? = some t) (h2 : l2[k]? = some t) : l1.take (k + 1) = l2.take (k + 1) := by
  rw [List.take_add_one, List.take_add_one, ht, h1, h2]

set_option maxRecDepth 100000 in
set_option maxHeartbeats 2000000 in
theorem equal_c (v1 v2 : Value) (l1 l2 : List Tok) (w : World) (h1 : RT w v1 l1) (h2 : RT w v2 l2) :
    Calls Tryd.prog 21 #[v1, v2] w fun e w' => e = .returned (.bool (decide (l1 = l2))) ∧ ∃ n, w' = w.drewN n := by
  obtain ⟨A1, c1, rfl, hm1, hc1⟩ := h1
  obtain ⟨A2, c2, rfl, hm2, hc2⟩ := h2
  by_cases hl : l1.length = l2.length
  · have hb : ((l1.length : Int) == (l2.length : Int)) = true := by simp; omega
    have HL := Lib.hid hl; clear hl
    go_enter Tryd.func21, Tryd.ntmps21
    go_wp2_with fail
    go_loopw [13] (fun x wr => ∃ k : Nat, k ≤ l1.length ∧ x = .int .i64 (k : Int) ∧ l1.take k = l2.take k ∧ ∃ n, wr = w.drewN n) (fun x _ => l1.length - (intOf x).toNat)
    case atStart => exact ⟨0, by omega, rfl, rfl, 0, rfl⟩
    case round =>
      obtain ⟨k, hk, rfl, ht, nn, rfl⟩ := hrel
      have Ht := Lib.hid ht; clear ht
      by_cases hlt : k < l1.length
      · obtain ⟨b1, o1, rfl, hr1⟩ := hc1 (by omega)
        obtain ⟨b2, o2, rfl, hr2⟩ := hc2 (by have := HL.out; omega)
        obtain ⟨⟨ka, ta⟩, hga⟩ : ∃ t, l1[k]? = some t := ⟨_, List.getElem?_eq_getElem hlt⟩
        obtain ⟨⟨kb, tb⟩, hgb⟩ : ∃ t, l2[k]? = some t := ⟨_, List.getElem?_eq_getElem (by have := HL.out; omega)⟩
        have ca0 := hr1 _ _ (tcell_at hga).1
        have ca1 := hr1 _ _ (tcell_at hga).2
        have cb0 := hr2 _ _ (tcell_at hgb).1
        have cb1 := hr2 _ _ (tcell_at hgb).2
        rw [← Nat.add_assoc] at ca1 cb1
        have hlt2 : k < l2.length := by have := HL.out; omega
        by_cases hab : ((ka, ta) : Tok) = (kb, tb)
        · have hne := fun w => neq_tok (ka, ta) (kb, tb) w
          rw [show decide (((ka, ta) : Tok) ≠ (kb, tb)) = false by simpa using hab] at hne
          have Htk := Lib.hid (take_eq Ht.out hga (by rw [hgb, hab]))
          simp only [] at hne ca0 ca1 cb0 cb1
          clear hr1 hr2 hc1 hc2 hga hgb hab
          go_wp2_with fail
          go_quiet (fail)
          go_wp2
          go_roundw
          case rel => exact ⟨k + 1, by omega, by go_num, Htk.out, nn + nq, rfl⟩
          case measure => simp [intOf]; omega
        · have hne := fun w => neq_tok (ka, ta) (kb, tb) w
          rw [show decide (((ka, ta) : Tok) ≠ (kb, tb)) = true from decide_eq_true hab] at hne
          have Hfin := Lib.hid (show decide (l1 = l2) = false by
            have : ¬ l1 = l2 := fun e => by rw [e, hgb] at hga; exact hab (by simpa using hga.symm)
            simpa using this)
          simp only [] at hne ca0 ca1 cb0 cb1
          clear hr1 hr2 hc1 hc2 hga hgb hab
          go_wp2_with fail
          go_quiet (fail)
          go_wp2
          go_ret
          exact ⟨ret_b Hfin.out.symm, nn + nq, by rw [World.drewN_drewN]⟩
      · have Hfin := Lib.hid (show decide (l1 = l2) = true by
          have h3 := Ht.out
          rw [List.take_of_length_le (by omega), List.take_of_length_le (by have := HL.out; omega)] at h3
          simpa using h3)
        go_wp2
        go_ret
        exact ⟨ret_b Hfin.out.symm, nn, rfl⟩
  · have hb : ((l1.length : Int) == (l2.length : Int)) = false := by simp; omega
    have Hfin := Lib.hid (show decide (l1 = l2) = false by
      have : ¬ l1 = l2 := fun e => hl (by rw [e])
      simpa using this)
    clear hl
    go_enter Tryd.func21, Tryd.ntmps21
    go_wp2
    go_ret
    exact ⟨ret_b Hfin.out.symm, 0, rfl⟩
set_option maxRecDepth 100000 in
set_option maxHeartbeats 2000000 in
theorem rSame_c (v1 v2 : Value) (l1 l2 : List Tok) (w : World) (h1 : RT w v1 l1) (h2 : RT w v2 l2) :
    Calls Tryd.prog 12 #[v1, v2] w fun e w' => e = .returned (.bool (decide (l1 = l2))) ∧ ∃ n, w' = w.drewN n := by
  obtain ⟨A1, c1, rfl, hm1, hc1⟩ := h1
  obtain ⟨A2, c2, rfl, hm2, hc2⟩ := h2
  by_cases hl : l1.length = l2.length
  · have hb : ((l1.length : Int) == (l2.length : Int)) = true := by simp; omega
    have HL := Lib.hid hl; clear hl
    go_enter Tryd.func12, Tryd.ntmps12
    go_wp2_with fail
    go_loopw [5] (fun x wr => ∃ k : Nat, k ≤ l1.length ∧ x = .int .i64 (k : Int) ∧ l1.take k = l2.take k ∧ ∃ n, wr = w.drewN n) (fun x _ => l1.length - (intOf x).toNat)
    case atStart => exact ⟨0, by omega, rfl, rfl, 0, rfl⟩
    case round =>
      obtain ⟨k, hk, rfl, ht, nn, rfl⟩ := hrel
      have Ht := Lib.hid ht; clear ht
      by_cases hlt : k < l1.length
      · obtain ⟨b1, o1, rfl, hr1⟩ := hc1 (by omega)
        obtain ⟨b2, o2, rfl, hr2⟩ := hc2 (by have := HL.out; omega)
        obtain ⟨⟨ka, ta⟩, hga⟩ : ∃ t, l1[k]? = some t := ⟨_, List.getElem?_eq_getElem hlt⟩
        obtain ⟨⟨kb, tb⟩, hgb⟩ : ∃ t, l2[k]? = some t := ⟨_, List.getElem?_eq_getElem (by have := HL.out; omega)⟩
        have ca0 := hr1 _ _ (tcell_at hga).1
        have ca1 := hr1 _ _ (tcell_at hga).2
        have cb0 := hr2 _ _ (tcell_at hgb).1
        have cb1 := hr2 _ _ (tcell_at hgb).2
        rw [← Nat.add_assoc] at ca1 cb1
        have hlt2 : k < l2.length := by have := HL.out; omega
        by_cases hab : ((ka, ta) : Tok) = (kb, tb)
        · have hne := fun w => neq_tok (ka, ta) (kb, tb) w
          rw [show decide (((ka, ta) : Tok) ≠ (kb, tb)) = false by simpa using hab] at hne
          have Htk := Lib.hid (take_eq Ht.out hga (by rw [hgb, hab]))
          simp only [] at hne ca0 ca1 cb0 cb1
          clear hr1 hr2 hc1 hc2 hga hgb hab
          go_wp2_with fail
          go_quiet (fail)
          go_wp2
          go_roundw
          case rel => exact ⟨k + 1, by omega, by go_num, Htk.out, nn + nq, rfl⟩
          case measure => simp [intOf]; omega
        · have hne := fun w => neq_tok (ka, ta) (kb, tb) w
          rw [show decide (((ka, ta) : Tok) ≠ (kb, tb)) = true from decide_eq_true hab] at hne
          have Hfin := Lib.hid (show decide (l1 = l2) = false by
            have : ¬ l1 = l2 := fun e => by rw [e, hgb] at hga; exact hab (by simpa using hga.symm)
            simpa using this)
          simp only [] at hne ca0 ca1 cb0 cb1
          clear hr1 hr2 hc1 hc2 hga hgb hab
          go_wp2_with fail
          go_quiet (fail)
          go_wp2
          go_ret
          exact ⟨ret_b Hfin.out.symm, nn + nq, by rw [World.drewN_drewN]⟩
      · have Hfin := Lib.hid (show decide (l1 = l2) = true by
          have h3 := Ht.out
          rw [List.take_of_length_le (by omega), List.take_of_length_le (by have := HL.out; omega)] at h3
          simpa using h3)
        go_wp2
        go_ret
        exact ⟨ret_b Hfin.out.symm, nn, rfl⟩
  · have hb : ((l1.length : Int) == (l2.length : Int)) = false := by simp; omega
    have Hfin := Lib.hid (show decide (l1 = l2) = false by
      have : ¬ l1 = l2 := fun e => hl (by rw [e])
      simpa using this)
    clear hl
    go_enter Tryd.func12, Tryd.ntmps12
    go_wp2
    go_ret
    exact ⟨ret_b Hfin.out.symm, 0, rfl⟩

set_option maxHeartbeats 400000 in
theorem Same_c (v1 v2 : Value) (l1 l2 : List Tok) (w : World) (h1 : RT w v1 l1) (h2 : RT w v2 l2) :
    Calls Tryd.prog 11 #[v1, v2] w fun e w' => e = .returned (.bool (decide (l1 = l2))) ∧ ∃ n, w' = w.drewN n := by
  have H := Lib.hid (equal_c v1 v2 l1 l2 w h1 h2)
  clear h1 h2
  go_enter Tryd.func11, Tryd.ntmps11
  go_wp2_with fail
  refine H.out.mono ?_
  rintro e w' ⟨rfl, n, rfl⟩
  go_wp2
  go_ret
  exact ⟨rfl, n, rfl⟩
end Go.Proofs.YtcafnpfhjiaolaaDoor

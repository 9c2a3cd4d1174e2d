/- Contract of the document's answer's Valid: which tokens are valid. -/
import Derived.Test.YtcafnpfhjiaolaaDoorWrtM
import Derived.Test.YtcafnpfhjiaolaaDoorRefJ
import Derived.Test.YtcafnpfhjiaolaaDoorTokW
import Derived.Test.YtcafnpfhjiaolaaDoorTokV
namespace Go.Proofs.YtcafnpfhjiaolaaDoor
open Go.RowKit

set_option maxRecDepth 100000 in
set_option maxHeartbeats 2000000 in
theorem rValid_text (x : ByteArray) (hx : x.size ≤ 400000) (w : World) :
    Calls Tryd.prog 25 #[.agg #[.string kText, .string x]] w fun e w' => e = .returned (.bool (vP (kText, x.data.toList))) ∧ Below w.heap.size w w' := by
  have hR := Has.new w [.string kText, .string x] 30
  have hB : Below w.heap.size w (w.alloc (.cells #[.string kText, .string x] 30)) := (Below.refl _ _).alloc (Nat.le_refl _) _
  have hl : x.data.toList.length = x.size := by simp
  obtain ⟨hr0, hr1⟩ := hR.c2
  have hv : vP (kText, x.data.toList) = decide (rn cOk x.data.toList 0 = x.size) := by
    have := all_ok x.data.toList 0
    rw [List.drop_zero, Nat.zero_max, hl] at this
    unfold vP
    rw [if_pos rfl, Bool.eq_iff_iff, this, decide_eq_true_eq]
  have Hv := Lib.hid hv; clear hv
  go_enter Tryd.func25, Tryd.ntmps25
  go_wp2_with fail
  go_loop [3] (fun t => ∃ k : Nat, k ≤ x.size ∧ t = .int .i64 (k : Int) ∧ rn cOk x.data.toList 0 = rn cOk x.data.toList k) (fun t => x.size - (intOf t).toNat)
  case atStart => exact ⟨0, by omega, rfl, rfl⟩
  case round =>
    obtain ⟨k, hk, rfl, hr⟩ := hrel
    by_cases hlt : k < x.size
    · have Hb := bt_get x k hlt
      rcases hp : cOk (bt x.data.toList k) with _ | _
      · have Hres := Lib.hid (show decide (rn cOk x.data.toList 0 = x.size) = false by rw [hr, rn_stop fun _ => hp]; simp; omega)
        rw [Hb] at hp
        have h12 : (x[k].toNat : Int) < 32 ∨ 32 ≤ (x[k].toNat : Int) ∧ 126 < (x[k].toNat : Int) := by unfold cOk at hp; simp at hp; omega
        clear hp hr Hb hl
        rcases h12 with h1 | ⟨h1, h2⟩
        · go_wp2
          go_ret
          exact ⟨ret_b (by rw [Hv.out, Hres.out]), hB⟩
        · go_wp2
          go_ret
          exact ⟨ret_b (by rw [Hv.out, Hres.out]), hB⟩
      · have Hst := Lib.hid (show rn cOk x.data.toList 0 = rn cOk x.data.toList (k + 1) by rw [hr, rn_step (by omega) hp])
        rw [Hb] at hp
        have h12 : 32 ≤ (x[k].toNat : Int) ∧ (x[k].toNat : Int) ≤ 126 := by unfold cOk at hp; simp at hp; omega
        obtain ⟨h1, h2⟩ := h12
        clear hp hr Hb hl
        go_wp2
        go_round
        case rel => exact ⟨k + 1, by omega, by go_num, Hst.out⟩
        case measure => simp [intOf]; omega
    · have Hres := Lib.hid (show decide (rn cOk x.data.toList 0 = x.size) = true by rw [hr, rn_stop fun h => absurd h (by omega)]; simp; omega)
      clear hr hl
      go_wp2
      go_ret
      exact ⟨ret_b (by rw [Hv.out, Hres.out]), hB⟩

theorem kind_no {k : ByteArray} (h : k ≠ kText) : (k.toList == [116, 101, 120, 116]) = false := by
  rw [beq_eq_false_iff_ne]
  exact fun e => h (bytes_inj' (e.trans (by rw [Lib.toList_data])))
theorem eql_tok (a b : Tok) (w : World) : (binOp .eql 30 (.agg #[.string a.1, .string ⟨a.2.toArray⟩]) (.agg #[.string b.1, .string ⟨b.2.toArray⟩])).run Tryd.prog w = .ok (.bool (decide (a = b))) w := by
  rw [eql30]
  congr 2
  obtain ⟨a1, a2⟩ := a
  obtain ⟨b1, b2⟩ := b
  rw [Bool.eq_iff_iff]
  simp only [Lib.toList_data, Bool.and_eq_true, beq_iff_eq, decide_eq_true_eq, Prod.mk.injEq]
  have e : a1.data.toList = b1.data.toList ↔ a1 = b1 := ⟨fun h => bytes_inj' (by rw [Lib.toList_data, Lib.toList_data]; exact h), fun h => by rw [h]⟩
  rw [e]
set_option maxRecDepth 100000 in
set_option maxHeartbeats 2000000 in
theorem rValid_rest (k x : ByteArray) (hk : k ≠ kText) (hx : x.size ≤ 400000) (w : World) :
    Calls Tryd.prog 25 #[.agg #[.string k, .string x]] w fun e w' => e = .returned (.bool (vP (k, x.data.toList))) ∧ Below w.heap.size w w' := by
  have hR := Has.new w [.string k, .string x] 30
  have hB : Below w.heap.size w (w.alloc (.cells #[.string k, .string x] 30)) := (Below.refl _ _).alloc (Nat.le_refl _) _
  obtain ⟨hr0, hr1⟩ := hR.c2
  have hv : vP (k, x.data.toList) = decide (scanP x.data.toList = ([(k, x.data.toList)], 0, 0)) := by unfold vP; rw [if_neg hk]
  rcases hA : scanP x.data.toList with ⟨l, a, c⟩
  have H1 := Lib.hid hA
  have hE := scan_err x.data.toList
  rw [hA] at hv hE
  have Hv := Lib.hid hv
  clear hv hA
  have hkn := kind_no hk
  go_enter Tryd.func25, Tryd.ntmps25
  go_wp2_with fail
  refine (rScan_c x hx _).mono ?_
  intro e w1 hp
  obtain ⟨v, rfl, ho, hB1⟩ := scan_as H1.out hp
  have hR := hR.keep hB1
  have hB := bt_ hB hB1
  obtain ⟨hr0, hr1⟩ := hR.c2
  obtain ⟨A, cap, rfl, hm, hc⟩ := RT.of_own ho
  clear hp ho hB1 hR
  rcases hE with ⟨hc0, ha0⟩ | ⟨hc3, hl0⟩
  · subst hc0; subst ha0
    by_cases hl1 : l.length = 1
    · obtain ⟨⟨ku, xu⟩, rfl⟩ := List.length_eq_one_iff.1 hl1
      obtain ⟨b, o, rfl, hcc⟩ := hc (by simp)
      have c0 := hcc 0 _ rfl
      have c1 := hcc 1 _ rfl
      have heq := fun w => eql_tok (ku, xu) (k, x.data.toList) w
      rw [Nat.add_zero] at c0
      have Hfin := Lib.hid (show vP (k, x.data.toList) = decide (((ku, xu) : Tok) = (k, x.data.toList)) by rw [Hv.out]; simp)
      simp only [] at heq
      clear hcc hc hl1 hm
      go_wp2_with fail
      go_quiet (fail)
      go_wp2
      go_ret
      exact ⟨ret_b (by rw [Hfin.out]; simp), below_drewN hB nq⟩
    · have hb : ((l.length : Int) == 1) = false := by simp; omega
      have Hfin := Lib.hid (show vP (k, x.data.toList) = false by rw [Hv.out]; simp; intro h; rw [h] at hl1; exact hl1 rfl)
      clear hl1 hc
      go_wp2_with fail
      go_quiet (fail)
      go_wp2
      go_ret
      exact ⟨ret_b Hfin.out.symm, below_drewN hB nq⟩
  · subst hc3; subst hl0
    have Hfin := Lib.hid (show vP (k, x.data.toList) = false by rw [Hv.out]; simp)
    clear hc
    go_wp2_with fail
    go_quiet (fail)
    go_wp2
    go_ret
    exact ⟨ret_b Hfin.out.symm, below_drewN hB nq⟩
theorem rValid_c (k x : ByteArray) (hx : x.size ≤ 400000) (w : World) :
    Calls Tryd.prog 25 #[.agg #[.string k, .string x]] w fun e w' => e = .returned (.bool (vP (k, x.data.toList))) ∧ Below w.heap.size w w' := by
  by_cases hk : k = kText
  · subst hk; exact rValid_text x hx w
  · exact rValid_rest k x hk hx w
end Go.Proofs.YtcafnpfhjiaolaaDoor

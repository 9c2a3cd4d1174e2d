/- append of one row of tokens to another one, whichever of them is empty. -/
import Derived.Test.YtcafnpfhjiaolaaDoorTokT
import Derived.Laws.AppendOwnNone
namespace Go.Proofs.YtcafnpfhjiaolaaDoor
open Go.RowKit

theorem below_dn {B : Nat} {a w : World} (h : Below B a w) (n : Nat) : Below B a (w.drewN n) := ⟨h.os, h.tape, h.output, h.size, h.block⟩
theorem toks_one (l : List Tok) : ∀ u ∈ tcells l, u.oneCell' = true := by
  intro u hu
  unfold tcells at hu
  rw [List.mem_flatMap] at hu
  obtain ⟨t, _, h⟩ := hu
  simp only [List.mem_cons, List.not_mem_nil, or_false] at h
  rcases h with rfl | rfl <;> rfl

theorem wpList_append_toks {w : World} {ops : Array Oper} {rest : List Oper} {o : Oper} {a : Act} {Q : Exit → Act → World → Prop} (hw : Region.wanted o (yielded ops a.tmps) = true) (s x : Operand)
    (ho : o.op = .call { callee := .builtin .append, args := #[s, x], argTypes := #[23, 23] })
    (base b2 : Nat) (v vx : Value) (n : Nat) (xs : List Value) (m : List Tok) (hs : a.eval s = v) (hown : w.ownsRow base 30 2 v n xs)
    (hx : a.eval x = vx) (hsrc : w.ownsRow b2 30 2 vx m.length (tcells m)) (hn : n + m.length ≤ 4000000) (hbase : base ≤ w.heap.size)
    (h : ∀ v' w', w'.ownsRow base 30 2 v' (n + m.length) (xs ++ tcells m) → w.grownBy w' v.ownBlock → wpList Tryd.prog ops Q rest (a.put o.dst v') w') : wpList Tryd.prog ops Q (o :: rest) a w := by
  obtain ⟨i0, hi, hz0, hz1, hz2⟩ := info_parts info30
  refine wpList_step fun K hK => ?_
  rw [if_pos hw]
  rcases hsrc.2 with ⟨rfl, h0⟩ | ⟨g, cap, cur, rfl, hg, hc, hcn, hm, hsz, hxx⟩
  · have hm : m = [] := List.eq_nil_of_length_eq_zero h0
    subst hm
    have hrun := run_append_owned_none (P := Tryd.prog) (w := w) base 23 o.type 30 i0 2 Tryd.underlying23 hi v n xs hown
    have hf := h v w (by simpa [tcells] using hown) (World.grownBy.refl w _)
    unfold Oper.wp
    simp [execOp, ho, resolve, invoke, builtin, hs, hx, hrun, Result.andThen]
    exact hK _ _ hf
  · refine wp_append_own (P := Tryd.prog) w s x 23 ho base 30 i0 _ 2 32 Tryd.underlying23 hi hz0 hz1 hz2 rfl (by decide) v n xs hs hown ⟨g, 0, none⟩ m.length cap (tcells m) hx hsrc.1 ?_ (toks_one m) (by unfold maxLen; omega) (by omega) hbase (fun v' w' h1 h2 _ => hK _ _ (h v' w' h1 h2))
    intro j u hu
    exact hsrc.cells (g := g) rfl j u hu
end Go.Proofs.YtcafnpfhjiaolaaDoor

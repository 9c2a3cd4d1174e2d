/- Mathematics of places: how the document lists them, with sums of 64 bits; where these are the exact ones. -/
import Derived.Test.YtkgdnlknnjiglaaSecF
import Derived.IntWalk
import Derived.OpenShut
namespace Go.Proofs.Ytkgdnlknnjiglaa
open Go.RowKit

/-- A sum of 64 bits. -/
def w64 (x : Int) : Int := IntKind.i64.wrap x
theorem w64_of {x : Int} (h : Fit x) : w64 x = x := IntWalk.i64_in _ (by unfold Fit at h; omega)
theorem w64_fit (x : Int) : Fit (w64 x) := by
  have := bounds_i64 (wf_wrap .i64 x)
  unfold Fit w64; omega
/-- One chunk of a dimension more. -/
def chunk (out : List Int) (s : Int) (i : Nat) : List Int := out.map fun y => w64 (y + i * s)
def stepW (out : List Int) (s : Int) (e : Nat) : List Int := (List.range e).flatMap (chunk out s)
def plcK (d : DS) (k : Nat) : List Int := ((d.ex.zip d.st).take k).foldl (fun out p => stepW out p.2 p.1.toNat) [d.b]
def plcW (d : DS) : List Int := if pr d.ex = 0 then [] else plcK d d.ex.length
theorem stepW_succ (out : List Int) (s : Int) (i : Nat) : stepW out s (i + 1) = stepW out s i ++ chunk out s i := by
  unfold stepW; rw [List.range_succ, List.flatMap_append]; simp
theorem chunk_len (out : List Int) (s : Int) (i : Nat) : (chunk out s i).length = out.length := by simp [chunk]
theorem stepW_len (out : List Int) (s : Int) : ∀ (i : Nat), (stepW out s i).length = i * out.length
  | 0 => by simp [stepW]
  | i + 1 => by rw [stepW_succ, List.length_append, stepW_len out s i, chunk_len, Nat.succ_mul]
theorem chunk_take {out : List Int} {s y : Int} {i n : Nat} (h : out[n]? = some y) : (chunk out s i).take (n + 1) = (chunk out s i).take n ++ [w64 (y + i * s)] := by
  rw [List.take_add_one]; congr 1
  unfold chunk; rw [List.getElem?_map, h]; rfl
theorem plcK_succ {d : DS} {k : Nat} {e s : Int} (h1 : d.ex[k]? = some e) (h2 : d.st[k]? = some s) : plcK d (k + 1) = stepW (plcK d k) s e.toNat := by
  unfold plcK
  rw [List.take_add_one, zip_at h1 h2, List.foldl_append]; rfl
theorem pr_take_le : ∀ {l : List Int} (k : Nat), (∀ e ∈ l, 1 ≤ e) → 1 ≤ pr (l.take k) ∧ pr (l.take k) ≤ pr l
  | [], k, _ => by simp [pr]
  | x :: l, 0, h => by
    have h1 := h x List.mem_cons_self
    have h2 := (pr_take_le (l := l) l.length fun e he => h e (List.mem_cons_of_mem _ he)).1
    rw [List.take_length] at h2
    rw [pr_cons]
    refine ⟨by simp [pr], ?_⟩
    have : 1 * 1 ≤ x * pr l := Int.mul_le_mul h1 h2 (by decide) (by omega)
    simpa [pr] using this
  | x :: l, k + 1, h => by
    have h1 := h x List.mem_cons_self
    obtain ⟨h2, h3⟩ := pr_take_le (l := l) k fun e he => h e (List.mem_cons_of_mem _ he)
    rw [List.take_succ_cons, pr_cons, pr_cons]
    refine ⟨?_, Int.mul_le_mul_of_nonneg_left h3 (by omega)⟩
    have : 1 * 1 ≤ x * pr (l.take k) := Int.mul_le_mul h1 h2 (by decide) (by omega)
    omega
theorem plcK_len {d : DS} (hd : okD d) : ∀ (k : Nat), k ≤ d.ex.length → ((plcK d k).length : Int) = pr (d.ex.take k)
  | 0, _ => by simp [plcK, pr]
  | k + 1, hk => by
    have h1 : d.ex[k]? = some d.ex[k] := List.getElem?_eq_getElem (by omega)
    have h2 : d.st[k]? = some (d.st[k]'(by rw [hd.2.1]; omega)) := List.getElem?_eq_getElem (by rw [hd.2.1]; omega)
    have ih := plcK_len hd k (by omega)
    have he := (okE_iff.1 hd.1).2.1 _ (List.getElem_mem (show k < d.ex.length by omega))
    rw [plcK_succ h1 h2, stepW_len, pr_take h1, Int.natCast_mul, ih, Int.toNat_of_nonneg he.1, Int.mul_comm]
end Go.Proofs.Ytkgdnlknnjiglaa

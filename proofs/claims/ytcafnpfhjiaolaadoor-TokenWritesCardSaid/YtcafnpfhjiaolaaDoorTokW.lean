/- Contract of the sanity check Awake: its text has its ten tokens. -/
import Derived.Test.YtcafnpfhjiaolaaDoorTokT
namespace Go.Proofs.YtcafnpfhjiaolaaDoor
open Go.RowKit

abbrev awakeS : ByteArray := ⟨#[97, 40, 49, 58, 50, 41, 61, 98, 37, 99]⟩
theorem awake_scan : ∃ r : List Tok, scanP awakeS.data.toList = (r, 0, 0) ∧ r.length = 10 ∧ r[3]? = some (kOp, [58]) ∧ (∃ t, r[4]? = some (kInt, t)) := by
  have h : scanP awakeS.data.toList = ([(kName, [97]), (kOp, [40]), (kInt, [49]), (kOp, [58]), (kInt, [50]), (kOp, [41]), (kOp, [61]), (kName, [98]), (kOp, [37]), (kName, [99])], 0, 0) := by decide +kernel
  exact ⟨_, h, rfl, rfl, _, rfl⟩
theorem scan_as {L : List UInt8} {w w' : World} {e : Ending} {l : List Tok} {a c : Nat} (h : scanP L = (l, a, c)) (hp : ScanPost L w e w') :
    ∃ v, e = .returned (.tuple #[v, .int .i64 (a : Int), .int .i64 (c : Int)]) ∧ w'.ownsRow w.heap.size 30 2 v l.length (tcells l) ∧ Below w.heap.size w w' := by
  obtain ⟨v, he, ho, hb⟩ := hp
  rw [h] at he ho
  exact ⟨v, he, ho, hb⟩
theorem own_tok {w : World} {b : Nat} {v : Value} {l : List Tok} (h : w.ownsRow b 30 2 v l.length (tcells l)) (h0 : 0 < l.length) :
    ∃ g cap, v = .slice (some ⟨g, 0, none⟩) l.length cap ∧ b ≤ g ∧ l.length ≤ cap ∧ ∀ j u, (tcells l)[j]? = some u → w.cell? ⟨g, j, none⟩ = some u := by
  rcases h.2 with ⟨_, h1⟩ | ⟨g, cap, cur, rfl, hg, hc, hn, hm, hs, hx⟩
  · omega
  · refine ⟨g, cap, rfl, hg, hn, fun j u hu => ?_⟩
    have := h.cells (g := g) rfl j u hu
    rw [Addr.add_lit, Nat.zero_add] at this
    exact this
theorem eql30 (a b c d : ByteArray) (w : World) : (binOp .eql 30 (.agg #[.string a, .string b]) (.agg #[.string c, .string d])).run Tryd.prog w = .ok (.bool ((a.toList == c.toList) && (b.toList == d.toList))) w := by
  have hf : Tryd.prog.underlying 30 = some (.struct (Tryd.prog.fieldsOf 30)) := by kernel_rfl
  have hs : Tryd.prog.stoodInHeld 30 = false := by kernel_rfl
  rw [run_eql_struct, run_equalIn_agg w 9999 30 _ _ hf hs]
  have h1 := Tryd.underlying30
  simp [Program.fieldsOf, h1, Op.eqFields, part, go_sem]
  by_cases h2 : a.toList = c.toList <;> by_cases h3 : b.toList = d.toList <;> simp [h2, h3]

set_option maxRecDepth 100000 in
set_option maxHeartbeats 1000000 in
theorem Awake_c (w : World) (ht : TB w) : Calls Tryd.prog 8 #[] w fun e w' => e = .returned (.bool true) ∧ Below w.heap.size w w' := by
  obtain ⟨r, hr, h10, h3, t4, h4⟩ := awake_scan
  have Hs := Lib.hid (Scan_c awakeS (by decide) w ht)
  have heq := fun w => eql30 ⟨#[111, 112]⟩ ⟨#[58]⟩ ⟨#[111, 112]⟩ ⟨#[58]⟩ w
  rw [show ((⟨#[111, 112]⟩ : ByteArray).toList == (⟨#[111, 112]⟩ : ByteArray).toList && (⟨#[58]⟩ : ByteArray).toList == (⟨#[58]⟩ : ByteArray).toList) = true by simp] at heq
  have Hr := Lib.hid hr; have H3 := Lib.hid h3; have H4 := Lib.hid h4; have H10 := Lib.hid h10
  clear ht hr h3 h4 h10
  go_enter Tryd.func8, Tryd.ntmps8
  go_wp2_with fail
  refine Hs.out.mono ?_
  intro e w1 hp
  obtain ⟨v, rfl, ho, hB⟩ := scan_as Hr.out hp
  clear hp
  obtain ⟨g, cap, rfl, _, _, hc⟩ := own_tok ho (by have := H10.out; omega)
  have c6 := hc _ _ (tcell_at H3.out).1
  have c7 := hc _ _ (tcell_at H3.out).2
  have c8 := hc _ _ (tcell_at H4.out).1
  rw [H10.out]
  clear hc ho
  go_wp2
  go_ret
  exact ⟨rfl, by go_grown⟩
end Go.Proofs.YtcafnpfhjiaolaaDoor

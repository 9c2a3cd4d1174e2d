/- Contract of package token's readText: the text in quotes at a place. -/
import Derived.Test.YtcafnpfhjiaolaaDoorTokC
import Derived.Test.YtcafnpfhjiaolaaDoorTokS
namespace Go.Proofs.YtcafnpfhjiaolaaDoor
open Go.RowKit

theorem res31 (tm : Array Value) (R : Nat) (a b : Value) (n : Int) (c : Bool) (w : World) (hp : tm[4]?.getD undef = .pointer (some ⟨R, 0, none⟩)) (h5 : tm[5]?.getD undef = .int .i64 n) (h6 : tm[6]?.getD undef = .bool c) (h : Has w R [a, b]) :
    (results Tryd.f31 tm).run Tryd.prog w = .ok (.tuple #[.agg #[a, b], .int .i64 n, .bool c]) w := by
  obtain ⟨h0, h1⟩ := h.c2
  simp [results, Tryd.results31, go_sem, hp, h5, h6, h0, h1]

theorem Has.below {w w' : World} {B n : Nat} {xs : List Value} (h : Has w n xs) (hb : Below B w w') (hn : n < B) : Has w' n xs := fun i v hv => by
  obtain ⟨h1, h2⟩ := h i v hv
  exact ⟨by rw [hb.cell (p := ⟨n, i, none⟩) hn]; exact h1, by rw [hb.frozen (p := ⟨n, i, none⟩) hn]; exact h2⟩
theorem cells_app (a b : List UInt8) : Lib.byteCells (a ++ b) = Lib.byteCells a ++ Lib.byteCells b := by simp [Lib.byteCells]
theorem cells_one (q : Nat) (h : q < 256) : Lib.byteCells [q.toUInt8] = [.int .u8 (q : Int)] := by
  simp [Lib.byteCells]; omega
theorem sub_len (L : List UInt8) (a b : Nat) : (sub L a b).length = min (b - a) (L.length - a) := by
  unfold sub; rw [List.length_take, List.length_drop]
/-- The relation at the head of readText's loop. -/
def QRel (s : ByteArray) (q i : Nat) (w : World) (x : Value) (wr : World) : Prop :=
  ∃ (j : Nat) (k : List UInt8), i + 1 ≤ j ∧ j ≤ s.size ∧ k.length ≤ j ∧ x = .int .i64 (j : Int) ∧ quoP s.data.toList q j k = quoP s.data.toList q (i + 1) [] ∧
    Below w.heap.size w wr ∧ Has wr w.heap.size [.string ⟨#[]⟩, .string ⟨#[]⟩] ∧ Has wr (w.heap.size + 1) [.int .u8 (q : Int)] ∧ Lib.IsBuilder 53 5 (w.heap.size + 1 + 1) (w.heap.size + 1 + 1) (Lib.byteCells k) wr

set_option maxRecDepth 100000 in
set_option maxHeartbeats 2000000 in
theorem readText_c (s : ByteArray) (i : Nat) (hi : i < s.size) (hs : s.size ≤ 1000000) (hq : bt s.data.toList i ≠ 0) (w : World) :
    Calls Tryd.prog 31 #[.string s, .int .i64 (i : Int)] w fun e w' => e = .returned (tokV (textP s.data.toList i)) ∧ Below w.heap.size w w' := by
  have hex := show textP s.data.toList i = (quoP s.data.toList (bt s.data.toList i) (i + 1) []).map fun r => ((kText, r.1), r.2) from rfl
  have hb := bt_get s i hi
  have hql := bt_lt s.data.toList i
  generalize bt s.data.toList i = q at *
  have Hx := Lib.hid hex; have Hb := Lib.hid hb.symm; clear hex hb
  go_enter Tryd.func31, Tryd.ntmps31
  go_wp2_with fail
  go_loopw [11] (fun x wr => QRel s q i w x wr) (fun x wr => s.size - (intOf x).toNat)
  case atStart =>
    have h1 := (Has.new w [.string ⟨#[]⟩, .string ⟨#[]⟩] 30)
    have h2 := Has.new (w.alloc (.cells #[.string ⟨#[]⟩, .string ⟨#[]⟩] 30)) [.int .u8 (s[i].toNat : Int)] 5
    rw [Hb.out, World.size_alloc] at h2
    rw [Hb.out]
    refine ⟨i + 1, [], by omega, by omega, by simp, by go_num, rfl, (((Below.refl _ _).alloc (Nat.le_refl _) _).alloc (by simp) _).alloc (by simp; omega) _, (h1.alloc _).alloc _, h2.alloc _, ?_⟩
    have h3 := Lib.fresh_isBuilder 53 5 ((w.alloc (.cells #[.string ⟨#[]⟩, .string ⟨#[]⟩] 30)).alloc (.cells #[.int .u8 (q : Int)] 5))
    rw [World.size_alloc, World.size_alloc] at h3
    exact h3
  case round =>
    obtain ⟨j, k, hj1, hj2, hkj, rfl, hqq, hB, hR, hQ, hK⟩ := hrel
    have hq1 := hQ.c1
    have hlR := hR.lt; have hlQ := hQ.lt
    have Hqq := Lib.hid hqq; clear hqq
    have hg := rn_ge (neB q) s.data.toList j
    have hl := rn_le (neB q) s.data.toList j (by simpa using hj2)
    simp only [Array.length_toList, ByteArray.size_data] at hl
    have Hr := Lib.hid (runQuo_c q (w.heap.size + 1) s j hj2 hs wr hq1)
    have hun := quoP.eq_1 s.data.toList q j k
    generalize rn (neB q) s.data.toList j = r at *
    have Hun := Lib.hid hun; clear hun
    by_cases hr : r < s.size
    · have hrb : ((r : Int) == (s.size : Int)) = false := by simp; omega
      go_wp2_with fail
      refine Hr.out.mono ?_
      rintro e w1 ⟨rfl, rfl⟩
      go_wp2_with fail
      refine (wString_c (w.heap.size + 1 + 1) (w.heap.size + 1 + 1) (Lib.byteCells k) _ _ hK (by rw [Lib.byteCells_length, ByteArray.size_extract]; omega) (by omega)).mono ?_
      rintro e w2 ⟨rfl, hK2, hb2⟩
      rw [sub_ext, ← cells_app] at hK2
      have hR := hR.below hb2 (by omega)
      have hQ := hQ.below hb2 (by omega)
      have hB := hB.trans (hb2.mono (by omega))
      have hlR := hR.lt; have hlQ := hQ.lt
      have hq1 := hQ.c1
      rcases hqb : eqB q (bt s.data.toList (r + 1)) with _ | _
      · have Hqb := Lib.hid hqb; clear hqb
        go_wp2_with fail
        refine (holdQuo_c q (w.heap.size + 1) hq s (r + 1) _ hq1).mono ?_
        rw [Hqb.out]
        rintro e w3 ⟨rfl, rfl⟩
        go_wp2_with fail
        refine (Tryd.Builder_String_any (w.heap.size + 1 + 1) (w.heap.size + 1 + 1) (k ++ sub s.data.toList j r) _ (.inr hK2) (by omega)).mono ?_
        rintro e w4 ⟨rfl, hb4⟩
        have hR := hR.below hb4 (by omega)
        have hB := hB.trans (hb4.mono (by omega))
        obtain ⟨hr0, hr1⟩ := hR.c2
        obtain ⟨hq0, hq1⟩ := hR.f2
        have hres : textP s.data.toList i = some ((kText, k ++ sub s.data.toList j r), r + 1) := by
          rw [Hx.out, ← Hqq.out, Hun.out, if_pos (by simpa using hr), if_neg (by have := Hqb.out; unfold eqB at this; simpa using this)]; rfl
        have Hres := Lib.hid hres; clear hres
        go_wp2
        rw [Hres.out]
        exact bodyPost_ret (v := tokV (some ((kText, k ++ sub s.data.toList j r), r + 1))) (res31 _ _ _ _ _ _ _ rfl rfl rfl (hR.set2 _ _)) rfl ⟨rfl, (hB.st (Nat.le_refl _)).st (Nat.le_refl _)⟩
      · have Hqb := Lib.hid hqb; clear hqb
        go_wp2_with fail
        refine (holdQuo_c q (w.heap.size + 1) hq s (r + 1) _ hq1).mono ?_
        rw [Hqb.out]
        rintro e w3 ⟨rfl, rfl⟩
        go_wp2_with fail
        have hin : r + 1 < s.size := in_of_bt (p := eqB q) (by simp [eqB]; omega) Hqb.out
        refine (wByte_c (w.heap.size + 1 + 1) (w.heap.size + 1 + 1) (Lib.byteCells (k ++ sub s.data.toList j r)) (q : Int) _ (.inr hK2) (by rw [Lib.byteCells_length, List.length_append, sub_len]; omega) (by omega)).mono ?_
        rintro e w4 ⟨rfl, hK4, hb4⟩
        rw [← cells_one q hql, ← cells_app] at hK4
        have hR := hR.below hb4 (by omega)
        have hQ := hQ.below hb4 (by omega)
        have hB := hB.trans (hb4.mono (by omega))
        have hres : quoP s.data.toList q (r + 2) (k ++ sub s.data.toList j r ++ [q.toUInt8]) = quoP s.data.toList q (i + 1) [] := by
          rw [← Hqq.out, Hun.out, if_pos (by simpa using hr), if_pos (by have := Hqb.out; unfold eqB at this; simpa using this)]
        have Hres := Lib.hid hres; clear hres
        go_wp2
        go_roundw
        case rel => exact ⟨r + 2, _, by omega, by omega, by rw [List.length_append, List.length_append, sub_len]; simp; omega, by go_num, Hres.out, hB, hR, hQ, .inr hK4⟩
        case measure => simp [intOf]; omega
    · have hrb : ((r : Int) == (s.size : Int)) = true := by simp; omega
      have hres : textP s.data.toList i = none := by
        rw [Hx.out, ← Hqq.out, Hun.out, if_neg (by simpa using hr)]; rfl
      have Hres := Lib.hid hres; clear hres
      obtain ⟨hr0, hr1⟩ := hR.c2
      obtain ⟨hq0, hq1⟩ := hR.f2
      go_wp2_with fail
      refine Hr.out.mono ?_
      rintro e w1 ⟨rfl, rfl⟩
      go_wp2
      rw [Hres.out]
      exact bodyPost_ret (v := tokV none) (res31 _ _ _ _ _ _ _ rfl rfl rfl (hR.set2 _ _)) rfl ⟨rfl, (hB.st (Nat.le_refl _)).st (Nat.le_refl _)⟩
end Go.Proofs.YtcafnpfhjiaolaaDoor

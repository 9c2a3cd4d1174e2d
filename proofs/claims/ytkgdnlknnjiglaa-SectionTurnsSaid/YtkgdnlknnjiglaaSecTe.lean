/- Contract of the code's Transpose. -/
import Derived.Test.YtkgdnlknnjiglaaSecTa
import Derived.Test.YtkgdnlknnjiglaaSecTr
import Derived.Test.YtkgdnlknnjiglaaSecTd
namespace Go.Proofs.Ytkgdnlknnjiglaa
open Go.RowKit

theorem resD35 (tm : Array Value) (R : Nat) (a b c : Value) (n : Int) (w : World) (hp : tm[2]?.getD undef = .pointer (some ⟨R, 0, none⟩)) (h5 : tm[3]?.getD undef = .int .i64 n) (h : Has w R [a, b, c]) :
    (results Try.f35 tm).run Try.prog w = .ok (.tuple #[.agg #[a, b, c], .int .i64 n]) w := by
  obtain ⟨h0, h1, h2⟩ := h.c3
  simp [results, Try.results35, go_sem, hp, h5, h0, h1, h2]
theorem TW.rev {w w' : World} {B : Nat} {u v : Value} {l m : List Int} (h : TW w B u v l m) (h1 : OW w' B u l.reverse) (h2 : w.grownBy w' u.ownBlock) : TW w' B u v l.reverse m :=
  ⟨h1, h.2.1.kept h2 (fun g hg e => h.2.2 g e hg), h.2.2⟩
set_option maxRecDepth 100000 in
set_option maxHeartbeats 4000000 in
theorem Transpose_c (v : Value) (d : DS) (w : World) (h : RD w v d) : Calls Try.prog 35 #[v] w (DPost (trD d) (trE d) w) := by
  have h0 := h
  obtain ⟨ve, vt, rfl, he, ht, hfb⟩ := h
  have HB := Lib.hid (bt_ (box_below w (.cells #[.int .i64 d.b, ve, vt] 31)) (box_below _ (.cells #[.int .i64 0, .slice none 0 0, .slice none 0 0] 31)))
  have HX := Lib.hid ((Has.new w [.int .i64 d.b, ve, vt] 31).alloc (.cells #[.int .i64 0, .slice none 0 0, .slice none 0 0] 31))
  have HY := Lib.hid (Has.new (w.alloc (.cells #[.int .i64 d.b, ve, vt] 31)) [.int .i64 0, .slice none 0 0, .slice none 0 0] 31)
  obtain ⟨W0, hW0⟩ : ∃ W0, W0 = (w.alloc (.cells #[.int .i64 d.b, ve, vt] 31)).alloc (.cells #[.int .i64 0, .slice none 0 0, .slice none 0 0] 31) := ⟨_, rfl⟩
  rw [← hW0] at HB HX HY
  have hs0 : W0.heap.size = w.heap.size + 2 := by rw [hW0]; simp
  have HS := Lib.hid hs0
  rw [show (w.alloc (.cells #[.int .i64 d.b, ve, vt] 31)).heap.size = w.heap.size + 1 by simp] at HY
  have HV := Lib.hid (Valid_c _ d W0 (h0.keep HB.out))
  have HRD := Lib.hid h0
  have HW := Lib.hid hW0
  have HE := Lib.hid he
  clear he ht hW0 hs0 h0
  rcases hv : vldB d with _ | _
  · rw [hv] at HV
    rw [(trD_no hv).1, (trD_no hv).2]
    clear hv
    go_enter Try.func35, Try.ntmps35
    go_wp2_with fail
    rw [← HW.out]
    refine HV.out.mono ?_
    rintro e w1 ⟨rfl, hb⟩
    have HB1 := Lib.hid (show Below W0.heap.size W0 w1 from hb.below)
    obtain ⟨y1, y2, y3⟩ := (HY.out.keep HB1.out).c3
    obtain ⟨f1, f2, f3⟩ := (HY.out.keep HB1.out).f3
    clear hb
    go_wp2
    have hBw := ((((bt_ HB.out HB1.out).st (b := w.heap.size + 1) (i := 0) (u := .int .i64 0) (by omega)).st (b := w.heap.size + 1) (i := 1) (u := .slice none 0 0) (by omega)).st (b := w.heap.size + 1) (i := 2) (u := .slice none 0 0) (by omega))
    refine bodyPost_ret (resD35 _ _ _ _ _ _ _ rfl rfl ((HY.out.keep HB1.out).set3 _ _ _)) rfl ⟨_, rfl, RD.zero _, hBw⟩
  · rw [hv] at HV
    have HO := Lib.hid (vld_ok hv)
    obtain ⟨E, ce, rfl⟩ := HE.out.slice
    by_cases hn : d.ex.length = 2
    · have HD := Lib.hid (trD_yes hv hn)
      have hst : d.st.length = 2 := by have := (vld_ok hv).2.1; omega
      have HN := Lib.hid hn; have HN2 := Lib.hid hst
      rw [HD.out.1, HD.out.2]
      have HC := Lib.hid (fun (wx : World) (hb : Below w.heap.size w wx) => copied_c _ d wx (HRD.out.keep hb) (by omega))
      rw [hn] at HX HW HV HC
      rw [hn]
      clear hv hn hst HD
      go_enter Try.func35, Try.ntmps35
      go_wp2_with fail
      rw [← HW.out]
      refine HV.out.mono ?_
      rintro e w1 ⟨rfl, hb⟩
      have HB1 := Lib.hid (show Below W0.heap.size W0 w1 from hb.below)
      obtain ⟨x1, x2, x3⟩ := (HX.out.keep HB1.out).c3
      clear hb
      go_wp2_with fail
      refine (HC.out w1 (bt_ HB.out HB1.out)).mono ?_
      rintro e w2 ⟨va, vb, rfl, hT, hb2⟩
      have HB2 := Lib.hid (bt_ HB1.out hb2)
      have hs2 : w.heap.size + 2 ≤ w1.heap.size := by have := HB1.out.size; rw [HS.out] at this; exact this
      have hs3 := hb2.size
      have HS1 := Lib.hid hs2; have HS2 := Lib.hid (show w.heap.size + 2 ≤ w2.heap.size by omega)
      have HS3 := Lib.hid hs3
      obtain ⟨A1, c1, A2, c2, rfl, rfl⟩ := hT.slices HN.out HN2.out
      have HT := Lib.hid (hT.alloc (.cells #[.int .i64 d.b, .slice A1 2 c1, .slice A2 2 c2] 31))
      have HZ := Lib.hid (Has.new w2 [.int .i64 d.b, .slice A1 2 c1, .slice A2 2 c2] 31)
      have HY2 := Lib.hid ((HY.out.keep HB2.out).alloc (.cells #[.int .i64 d.b, .slice A1 2 c1, .slice A2 2 c2] 31))
      have HB3 := Lib.hid (bt_ (bt_ HB.out HB2.out) (box_below w2 (.cells #[.int .i64 d.b, .slice A1 2 c1, .slice A2 2 c2] 31)))
      have hl1 := hT.1.lt; have hl2 := hT.2.1.lt
      have HL1 := Lib.hid hl1; have HL2 := Lib.hid hl2
      clear hT hb2 hs2 hs3 hl1 hl2 x1 x2 x3
      go_wp2_with fail
      refine (reverse_c _ _ _ _ HT.out.1).mono ?_
      rintro e w3 ⟨rfl, hr, hg⟩
      have HT3 := Lib.hid (HT.out.rev hr hg)
      have HZ3 := Lib.hid (HZ.out.grown hg (fun k hk => by have := (HL1.out k hk).2; omega))
      have HY3 := Lib.hid (HY2.out.grown hg (fun k hk => by have := (HL1.out k hk).1; have := HS1.out; omega))
      have HB4 := Lib.hid (HB3.out.grown hg HB3.out.size (fun k hk => by have := (HL1.out k hk).1; have := HS1.out; omega))
      obtain ⟨q1, q2, q3⟩ := HZ3.out.c3
      clear hr hg
      go_wp2_with fail
      refine (reverse_c _ _ _ _ HT3.out.2.1).mono ?_
      rintro e w4 ⟨rfl, hr, hg⟩
      have HT4 := Lib.hid ((HT3.out.swap.rev hr hg).swap)
      have HZ4 := Lib.hid (HZ3.out.grown hg (fun k hk => by have := (HL2.out k hk).2; omega))
      have HY4 := Lib.hid (HY3.out.grown hg (fun k hk => by have := (HL2.out k hk).1; have := HS1.out; omega))
      have HB5 := Lib.hid (HB4.out.grown hg HB4.out.size (fun k hk => by have := (HL2.out k hk).1; have := HS1.out; omega))
      obtain ⟨q1, q2, q3⟩ := HZ4.out.c3
      obtain ⟨y1, y2, y3⟩ := HY4.out.c3
      obtain ⟨f1, f2, f3⟩ := HY4.out.f3
      clear hr hg
      go_wp2
      have hBw := ((HB5.out.st (b := w.heap.size + 1) (i := 0) (u := .int .i64 d.b) (by omega)).st (b := w.heap.size + 1) (i := 1) (u := .slice A1 2 c1) (by omega)).st (b := w.heap.size + 1) (i := 2) (u := .slice A2 2 c2) (by omega)
      refine bodyPost_ret (resD35 _ _ _ _ _ _ _ rfl rfl (HY4.out.set3 _ _ _)) rfl ⟨_, rfl, ⟨_, _, rfl, ?_, ?_, hfb⟩, hBw⟩
      · have := HS1.out
        exact (((HT4.out.1.far (by omega)).far (by omega)).far (by omega)).ri
      · have := HS1.out
        exact (((HT4.out.2.1.far (by omega)).far (by omega)).far (by omega)).ri
    · rw [(trD_rank hv hn).1, (trD_rank hv hn).2]
      have hdec : ((d.ex.length : Int) ≠ 2) := by omega
      clear hv
      go_enter Try.func35, Try.ntmps35
      go_wp2_with fail
      rw [← HW.out]
      refine HV.out.mono ?_
      rintro e w1 ⟨rfl, hb⟩
      have HB1 := Lib.hid (show Below W0.heap.size W0 w1 from hb.below)
      obtain ⟨x1, x2, x3⟩ := (HX.out.keep HB1.out).c3
      obtain ⟨y1, y2, y3⟩ := (HY.out.keep HB1.out).c3
      obtain ⟨f1, f2, f3⟩ := (HY.out.keep HB1.out).f3
      clear hb
      go_wp2
      have hBw := ((((bt_ HB.out HB1.out).st (b := w.heap.size + 1) (i := 0) (u := .int .i64 0) (by omega)).st (b := w.heap.size + 1) (i := 1) (u := .slice none 0 0) (by omega)).st (b := w.heap.size + 1) (i := 2) (u := .slice none 0 0) (by omega))
      refine bodyPost_ret (resD35 _ _ _ _ _ _ _ rfl rfl ((HY.out.keep HB1.out).set3 _ _ _)) rfl ⟨_, rfl, RD.zero _, hBw⟩
end Go.Proofs.Ytkgdnlknnjiglaa

/- Contract of the document's Whole. -/
import Derived.Test.YtkgdnlknnjiglaaSecY
namespace Go.Proofs.Ytkgdnlknnjiglaa
open Go.RowKit

theorem OW.emptyN (w : World) (n B : Nat) (hn : w.heap.size = n) (hB : B ≤ n) : OW (w.alloc (.cells #[] 3)) B (.slice (some ⟨n, 0, none⟩) 0 0) [] := by
  subst hn; exact OW.empty w B hB
set_option maxRecDepth 100000 in
set_option maxHeartbeats 4000000 in
theorem rWhole_c (v : Value) (l : List Int) (w : World) (h : RI w v l) : Calls Try.prog 25 #[v] w (DPost (whl l) (whE l) w) := by
  obtain ⟨o1, z1⟩ : ∃ o : Obj, o = .cells #[.int .i64 0, .slice none 0 0, .slice none 0 0] 31 := ⟨_, rfl⟩
  have HB := Lib.hid (box_below w o1)
  have HP := Lib.hid (rsize_c v l _ (h.keep HB.out))
  have HR := Lib.hid (h.keep HB.out)
  rw [z1] at HB HP HR
  clear z1 o1
  by_cases ho : okE l = true
  · rw [show szE l = pr l by unfold szE; rw [if_pos ho]] at HP
    have hp0 := (pr_small (okE_iff.1 ho).1 (okE_iff.1 ho).2.1).1
    generalize hpr : pr l = z at *
    clear hpr
    have HD := Lib.hid (show whl l = ⟨0, l, wst l l.length⟩ by unfold whl; rw [if_pos ho])
    have HE := Lib.hid (show whE l = 0 by unfold whE; rw [if_pos ho])
    rw [HE.out]
    have HO := Lib.hid ho
    have hl3 := (okE_iff.1 ho).1
    obtain ⟨A, cap, rfl, hm, -, -⟩ := h
    clear ho
    go_enter Try.func25, Try.ntmps25
    go_wp2_with fail
    refine HP.out.mono ?_
    rintro e w1 ⟨rfl, rfl⟩
    go_wp2_with (at_builtin; refine wpList_app rfl _ _ rfl (w.heap.size + 1) _ _ [] l rfl (OW.emptyN (w.alloc (.cells #[.int .i64 0, .slice none 0 0, .slice none 0 0] 31)) _ _ (by simp) (by omega)) rfl (HR.out.keep (box_below _ _)) (by simp; omega) (by simp) ?_)
    intro ve w2 a1 a2 a3
    have hb2 : Below (w.alloc (.cells #[.int .i64 0, .slice none 0 0, .slice none 0 0] 31)).heap.size (w.alloc (.cells #[.int .i64 0, .slice none 0 0, .slice none 0 0] 31)) w2 := (box_below _ (.cells #[] 3)).grown a2 (by simp) (fun k hk => by
      have : w.heap.size + 1 = k := by simpa [Value.ownBlock] using hk
      simp; omega)
    have hve : OW w2 (w.heap.size + 1) ve l := a1
    clear a1 a2 a3
    have hR2 := (Has.new w [.int .i64 0, .slice none 0 0, .slice none 0 0] 31).keep hb2
    have HR2 := Lib.hid hR2
    have HB2 := Lib.hid (HB.out.trans (hb2.mono HB.out.size))
    have HVE := Lib.hid (hve)
    obtain ⟨A2, c2, rfl⟩ := hve.ri.slice
    have HRI := Lib.hid (HR.out.keep hb2)
    have hsz := HB2.out.size
    have hsz2 : w.heap.size < w2.heap.size := by have := hb2.size; simp at this; omega
    clear hve hb2 hR2
    go_wp2_with fail
    go_loopw [5, 6] (WRel l w2.heap.size w.heap.size (.slice A2 l.length c2) (.slice none 0 0) w2) (fun _ x _ => l.length - (intOf x).toNat)
    case atStart =>
      exact ⟨0, 1, .slice none 0 0, by omega, rfl, rfl, rfl, Has.new w2 [.int .i64 0, .slice A2 l.length c2, .slice none 0 0] 31, OW.nil _ _, box_below _ _, by simp, HR2.out.alloc _⟩
    case round =>
      obtain ⟨k, q, s, hk, rfl, rfl, hq, hH, hO, hB, hn, hR⟩ := hrel
      have hqb := pr_take_bd HO.out k
      rw [← hq] at hqb
      have HQ := Lib.hid hq
      clear hq
      obtain ⟨As, cs, rfl⟩ := hO.ri.slice
      rw [wst_len] at hH hO
      obtain ⟨g1, g2, g3⟩ := hH.c3
      obtain ⟨f1, f2, f3⟩ := hH.f3
      by_cases hlt : k < l.length
      · obtain ⟨b, o, cap', x, e1, hx, hcell⟩ := (HRI.out.keep hB).at_ hlt
        obtain ⟨rfl, rfl⟩ : A = some ⟨b, o, none⟩ ∧ cap = cap' := by simpa using e1
        have hxb := (okE_iff.1 HO.out).2.1 x (List.mem_of_getElem? hx)
        have hmul := mul_small hqb.1 hqb.2 hxb.1 hxb.2
        have HX := Lib.hid hx
        have HH := Lib.hid hH; have HOW := Lib.hid hO; have HBB := Lib.hid hB; have HRR := Lib.hid hR
        clear e1 hx hH hO hB hR
        go_wp2_with (at_builtin; refine wpList_app rfl _ _ rfl (w2.heap.size + 1) _ _ (wst l k) [q] rfl (HOW.out.alloc _) rfl (RI.one wr q (by unfold Fit; omega) 3) (by simp [wst_len]; omega) (by simp; omega) ?_)
        intro v' w' h1 h2 h3
        obtain ⟨A', c', rfl⟩ := h1.slice (n := k + 1) (by simp [wst_len])
        have hne : ∀ g, (Value.slice As k cs).ownBlock = some g → w2.heap.size + 1 ≤ g := fun g hg => (HOW.out.lt g hg).1
        have hH' := (HH.out.alloc (.cells #[.int .i64 q] 3)).grown h2 (fun g hg => by have := hne g hg; omega)
        have HH' := Lib.hid hH'
        have HR' := Lib.hid ((HRR.out.alloc (.cells #[.int .i64 q] 3)).grown h2 (fun g hg => by have := hne g hg; omega))
        have HB' := Lib.hid ((HBB.out.alloc (by omega) (.cells #[.int .i64 q] 3)).grown h2 (by simp; omega) (fun g hg => by have := hne g hg; omega))
        have HS' := Lib.hid (show w2.heap.size < w'.heap.size by have := h2.size; simp at this; omega)
        have HO' := Lib.hid h1
        obtain ⟨k1, k2, k3⟩ := hH'.c3
        obtain ⟨m1, m2, m3⟩ := hH'.f3
        have hcell2 := (HRI.out.keep (HB'.out.st (b := w2.heap.size) (i := 2) (u := .slice A' (k + 1) c') (Nat.le_refl _))).cell HX.out
        clear h1 h2 h3 hne hH' hcell
        go_wp2
        go_roundw
        case rel => exact ⟨k + 1, q * x, _, by omega, by go_num, rfl, by rw [pr_take HX.out, HQ.out], HH'.out.set (i := 2), by rw [wst_succ, ← HQ.out]; exact HO'.out.far (by omega), HB'.out.st (Nat.le_refl _), by simp [World.setCell]; exact HS'.out, HR'.out.far (by omega)⟩
        case measure => simp [intOf]; omega
      · obtain rfl : k = l.length := by omega
        obtain ⟨r1, r2, r3⟩ := hR.c3
        obtain ⟨p1, p2, p3⟩ := hR.f3
        have HH := Lib.hid hH; have HOW := Lib.hid hO; have HBB := Lib.hid hB; have HRR := Lib.hid hR
        clear hH hO hB hR
        go_wp2
        have hBw := (((HB2.out.trans (HBB.out.mono (by omega))).st (b := w.heap.size) (i := 0) (u := .int .i64 0) (Nat.le_refl _)).st (b := w.heap.size) (i := 1) (u := .slice A2 l.length c2) (Nat.le_refl _)).st (b := w.heap.size) (i := 2) (u := .slice As l.length cs) (Nat.le_refl _)
        refine bodyPost_ret (resD25 _ _ _ _ _ _ _ rfl rfl (HRR.out.set3 _ _ _)) rfl ⟨_, rfl, ?_, hBw⟩
        rw [HD.out]
        refine ⟨_, _, rfl, ?_, ?_, fit0⟩
        · exact ((((HVE.out.keep HBB.out).far (by omega)).far (by omega)).far (by omega)).ri
        · exact (((HOW.out.far (by omega)).far (by omega)).far (by omega)).ri
  · have ho' : okE l = false := by simpa using ho
    rw [show szE l = -1 by unfold szE; rw [if_neg ho]] at HP
    have HD := Lib.hid (show whl l = ⟨0, [], []⟩ by unfold whl; rw [if_neg ho])
    have HE := Lib.hid (show whE l = 2 by unfold whE; rw [if_neg ho])
    rw [HE.out]
    clear ho ho'
    go_enter Try.func25, Try.ntmps25
    go_wp2_with fail
    refine HP.out.mono ?_
    rintro e w1 ⟨rfl, rfl⟩
    go_wp2
    refine bodyPost_ret (resD25 _ _ _ _ _ _ _ rfl rfl (Has.new w [.int .i64 0, .slice none 0 0, .slice none 0 0] 31)) rfl ⟨_, rfl, ?_, HB.out⟩
    rw [HD.out]
    exact RD.zero _
end Go.Proofs.Ytkgdnlknnjiglaa

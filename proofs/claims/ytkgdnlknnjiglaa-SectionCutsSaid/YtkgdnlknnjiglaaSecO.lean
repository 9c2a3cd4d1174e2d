/- Contract of the document's places. -/
import Derived.Test.YtkgdnlknnjiglaaSecN
import Derived.Test.YtkgdnlknnjiglaaSecI
import Derived.Deep.RegionHeld3
import Derived.Deep.RegionLaw
import Derived.Deep.AppendLies
namespace Go.Proofs.Ytkgdnlknnjiglaa
open Go.RowKit

theorem len_le {d : DS} (hd : okD d) (h0 : pr d.ex ≠ 0) {k : Nat} (hk : k ≤ d.ex.length) : 1 ≤ (plcK d k).length ∧ (plcK d k).length ≤ 4000 := by
  have h1 := plcK_len hd k hk
  have h2 := pr_take_le (l := d.ex) k (pr_ne (okE_iff.1 hd.1).2.1 h0)
  have h3 := (okE_iff.1 hd.1).2.2
  omega
theorem stepW_le {d : DS} (hd : okD d) (h0 : pr d.ex ≠ 0) {k i : Nat} {e s : Int} (hk : d.ex[k]? = some e) (hs : d.st[k]? = some s) (hi : (i : Int) < e) : (i + 1) * (plcK d k).length ≤ 4000 := by
  have hkl := (List.getElem?_eq_some_iff.1 hk).1
  have h1 := (len_le hd h0 (k := k + 1) (by omega)).2
  rw [plcK_succ hk hs, stepW_len] at h1
  have h2 : (i + 1) * (plcK d k).length ≤ e.toNat * (plcK d k).length := Nat.mul_le_mul_right _ (by omega)
  omega
theorem OW.oneN (w : World) (x : Int) (n B : Nat) (hx : Fit x) (hn : w.heap.size = n) (hB : B ≤ n) : OW (w.alloc (.cells #[.int .i64 x] 3)) B (.slice (some ⟨n, 0, none⟩) 1 1) [x] := by
  subst hn
  exact ⟨World.ownsRow_lit w #[.int .i64 x] 1 hB (by unfold maxLen; omega) rfl, by simpa using hx, by simp⟩
theorem RI.cell {w : World} {b o n c k : Nat} {x : Int} {l : List Int} (h : RI w (.slice (some ⟨b, o, none⟩) n c) l) (hx : l[k]? = some x) : w.cell? ⟨b, o + k, none⟩ = some (.int .i64 x) := by
  obtain ⟨A, cap, e, _, _, hc⟩ := h
  obtain ⟨b', o', e', hr⟩ := hc (by have := (List.getElem?_eq_some_iff.1 hx).1; omega)
  subst e'
  obtain ⟨⟨rfl, rfl⟩, _⟩ : (b = b' ∧ o = o') ∧ _ := by simpa using e
  exact hr _ _ hx
/-- The head of the loop over the dimensions. -/
def PRel (d : DS) (nb : Nat) (W1 : World) (vo x : Value) (wr : World) : Prop :=
  ∃ k : Nat, k ≤ d.ex.length ∧ x = .int .i64 (k : Int) ∧ OW wr nb vo (plcK d k) ∧ Below nb W1 wr ∧ nb ≤ wr.heap.size
/-- The head of the loop over the subscripts of one dimension. -/
def QRel (d : DS) (nb k : Nat) (s : Int) (e : Nat) (vo : Value) (W1 : World) (vn x : Value) (wr : World) : Prop :=
  ∃ i : Nat, i ≤ e ∧ x = .int .i64 (i : Int) ∧ TW wr nb vo vn (plcK d k) (stepW (plcK d k) s i) ∧ Below nb W1 wr ∧ nb ≤ wr.heap.size
/-- The head of the loop over the places so far. -/
def SRel (d : DS) (nb k i : Nat) (s : Int) (vo : Value) (W1 : World) (vn x : Value) (wr : World) : Prop :=
  ∃ n : Nat, n ≤ (plcK d k).length ∧ x = .int .i64 (n : Int) ∧ TW wr nb vo vn (plcK d k) (stepW (plcK d k) s i ++ (chunk (plcK d k) s i).take n) ∧ Below nb W1 wr ∧ nb ≤ wr.heap.size
set_option maxRecDepth 100000 in
set_option maxHeartbeats 4000000 in
theorem rplaces_c (v : Value) (d : DS) (w : World) (h : RD w v d) (hd : okD d) : Calls Try.prog 52 #[v] w (OWPost (plcW d) w) := by
  obtain ⟨ve, vt, rfl, he, ht, hfb⟩ := h
  obtain ⟨o1, z1⟩ : ∃ o : Obj, o = .cells #[.int .i64 d.b, ve, vt] 31 := ⟨_, rfl⟩
  have HB := Lib.hid (box_below w o1)
  have HZ := Lib.hid (rsize_c ve d.ex _ (he.keep HB.out))
  have HE := Lib.hid (he.keep HB.out); have HT := Lib.hid (ht.keep HB.out)
  have HD := Lib.hid (Has.new w [.int .i64 d.b, ve, vt] 31)
  rw [z1] at HB HZ HE HT
  rw [show szE d.ex = pr d.ex by unfold szE; rw [if_pos hd.1]] at HZ
  obtain ⟨E, ce, rfl⟩ := he.slice
  obtain ⟨T, ct, rfl⟩ := ht.slice
  have hme := he.len; have hmt := ht.len
  have HDD := Lib.hid hd
  obtain ⟨z, hz⟩ : ∃ z, z = pr d.ex := ⟨_, rfl⟩
  rw [← hz] at HZ
  clear he ht hd z1 o1
  by_cases h0 : z = 0
  · have f0 : (z == 0) = true := by simpa using h0
    have HP := Lib.hid (show plcW d = [] by unfold plcW; rw [if_pos (by rw [← hz]; exact h0)])
    clear h0 hz
    go_enter Try.func52, Try.ntmps52
    go_wp2_with fail
    refine HZ.out.mono ?_
    rintro e w1 ⟨rfl, rfl⟩
    go_wp2
    go_ret
    rw [HP.out]
    exact ⟨_, rfl, OW.nil _ _, HB.out⟩
  · have f0 : (z == 0) = false := by simpa using h0
    have HP := Lib.hid (show plcW d = plcK d d.ex.length by unfold plcW; rw [if_neg (by rw [← hz]; exact h0)])
    have HN0 := Lib.hid (show pr d.ex ≠ 0 by rw [← hz]; exact h0)
    clear h0 hz
    obtain ⟨W1, hW1⟩ : ∃ W1, W1 = w.alloc (.cells #[.int .i64 d.b, .slice E d.ex.length ce, .slice T d.st.length ct] 31) := ⟨_, rfl⟩
    have HW := Lib.hid hW1
    have hsz1 : W1.heap.size = w.heap.size + 1 := by rw [hW1]; simp
    rw [← hW1] at HB HZ HE HT HD
    go_enter Try.func52, Try.ntmps52
    rw [HW.out] at HZ
    go_wp2_with fail
    refine HZ.out.mono ?_
    rintro e w1 ⟨rfl, rfl⟩
    rw [← HW.out] at HZ
    have hd1 := HD.out
    rw [HW.out] at hd1
    obtain ⟨y1, y2, y3⟩ := hd1.c3
    clear hd1
    go_wp2_with fail
    go_loopw [3, 4] (PRel d (w.heap.size + 1) W1) (fun _ x _ => d.ex.length - (intOf x).toNat)
    case atStart =>
      refine ⟨0, Nat.zero_le _, rfl, OW.oneN _ d.b _ _ hfb (by simp) (by omega), ?_, by simp⟩
      rw [← HW.out, ← hsz1]; exact box_below _ _
    case round =>
      obtain ⟨k, hk, rfl, hO, hB, hnb⟩ := hrel
      by_cases hlt : k < d.ex.length
      · obtain ⟨b4, o4, c4, ev, e4, hev, me⟩ := (HE.out.keep (hB.mono (by omega))).at_ hlt
        obtain ⟨rfl, rfl⟩ : E = some ⟨b4, o4, none⟩ ∧ ce = c4 := by simpa using e4
        obtain ⟨b5, o5, c5, tv, e5, htv, mt⟩ := (HT.out.keep (hB.mono (by omega))).at_ (k := k) (by have := HDD.out.2.1; omega)
        obtain ⟨rfl, rfl⟩ : T = some ⟨b5, o5, none⟩ ∧ ct = c5 := by simpa using e5
        obtain ⟨y1, y2, y3⟩ := (HD.out.keep (hB.mono (by omega))).c3
        have hlT : k < d.st.length := by have := HDD.out.2.1; omega
        have hevb := (okE_iff.1 HDD.out.1).2.1 ev (List.mem_of_getElem? hev)
        have htvb := near_iff.1 (List.all_eq_true.1 HDD.out.2.2.1 tv (List.mem_of_getElem? htv))
        have HEV := Lib.hid hev; have HTV := Lib.hid htv
        obtain ⟨L, hL⟩ : ∃ L, L = (plcK d k).length := ⟨_, rfl⟩
        have hL4 := (len_le HDD.out HN0.out hk).2
        rw [← hL] at hL4
        obtain ⟨Ao, co, rfl⟩ : ∃ A c, u3 = .slice A L c := by
          obtain ⟨A, c, e⟩ := hO.slice (n := L) hL.symm
          exact ⟨A, c, e⟩
        have HL := Lib.hid hL
        have HO := Lib.hid hO; have HBB := Lib.hid hB
        clear e4 e5 hev htv hO hB hL
        go_wp2_with fail
        go_loopw [5, 6] (QRel d (w.heap.size + 1) k tv ev.toNat (.slice Ao L co) W1) (fun _ x _ => ev.toNat - (intOf x).toNat)
        case atStart => exact ⟨0, Nat.zero_le _, rfl, ⟨HO.out, OW.nil _ _, fun g _ h => by simp [Value.ownBlock] at h⟩, HBB.out, hnb⟩
        case round =>
          obtain ⟨i, hi, rfl, hTT, hB2, hnb2⟩ := hrel
          obtain ⟨y1, y2, y3⟩ := (HD.out.keep (hB2.mono (by omega))).c3
          have me := (HE.out.keep (hB2.mono (by omega))).cell HEV.out
          obtain ⟨An, Ln, cn, hLn, hvn⟩ : ∃ An Ln cn, Ln = (stepW (plcK d k) tv i).length ∧ u5 = .slice An Ln cn := by
            obtain ⟨A, c, e⟩ := hTT.2.1.ri.slice
            exact ⟨A, _, c, rfl, e⟩
          subst hvn
          by_cases hlt2 : i < ev.toNat
          · have hie : (i : Int) < ev := by omega
            have HLE := Lib.hid (stepW_le HDD.out HN0.out HEV.out HTV.out hie)
            have HTT := Lib.hid hTT; have HBB2 := Lib.hid hB2; have HLn := Lib.hid hLn
            clear hTT hB2 hLn
            go_wp2_with fail
            go_loopw [5, 7] (SRel d (w.heap.size + 1) k i tv (.slice Ao L co) W1) (fun _ x _ => L - (intOf x).toNat)
            case atStart => exact ⟨0, Nat.zero_le _, rfl, by rw [List.take_zero, List.append_nil]; exact HTT.out, HBB2.out, hnb2⟩
            case round =>
              obtain ⟨n, hn, rfl, hTT3, hB3, hnb3⟩ := hrel
              rw [← HL.out] at hn
              by_cases hlt3 : n < L
              · obtain ⟨y, hy⟩ : ∃ y, (plcK d k)[n]? = some y := ⟨_, List.getElem?_eq_getElem (by have := HL.out; omega)⟩
                obtain ⟨bo, oo, co', y', e5, hy', mo⟩ := hTT3.1.ri.at_ (k := n) (by have := HL.out; omega)
                rw [← HL.out] at e5
                obtain ⟨rfl, rfl⟩ : Ao = some ⟨bo, oo, none⟩ ∧ co = co' := by simpa using e5
                obtain rfl : y = y' := by rw [hy'] at hy; simpa using hy.symm
                obtain ⟨y1, y2, y3⟩ := (HD.out.keep (hB3.mono (by omega))).c3
                have mt := (HT.out.keep (hB3.mono (by omega))).cell HTV.out
                have him := mul_near (x := (i : Int)) (y := tv) (by omega) (by omega) (by omega) (by omega)
                have HCT := Lib.hid (chunk_take (s := tv) (i := i) hy)
                obtain ⟨s1, hs1⟩ : ∃ s1, s1 = w64 (y + (i : Int) * tv) := ⟨_, rfl⟩
                rw [← hs1] at HCT
                have hwi : IntKind.i64.wrap ((i : Int) * tv) = (i : Int) * tv := IntWalk.i64_in _ (by omega)
                have hw : IntKind.i64.wrap (y + (i : Int) * tv) = s1 := hs1.symm
                have hfs : Fit s1 := by rw [hs1]; exact w64_fit _
                obtain ⟨A3, L3, c3, hL3, hvn⟩ : ∃ An Ln cn, Ln = (stepW (plcK d k) tv i ++ (chunk (plcK d k) tv i).take n).length ∧ u5 = .slice An Ln cn := by
                  obtain ⟨A, c, e⟩ := hTT3.2.1.ri.slice
                  exact ⟨A, _, c, rfl, e⟩
                subst hvn
                have HT3 := Lib.hid hTT3; have HB3 := Lib.hid hB3; have HL3 := Lib.hid hL3
                clear hTT3 hB3 hL3 e5 hy hy' hs1
                go_wp2_with fail
                obtain ⟨i0, hi0, hz0, hz1, hz2⟩ := info_parts info3
                have hown := HT3.out.2.1.1
                have hll : L3 + 1 ≤ 4000 := by
                  have h1 := HLE.out; have h2 := HL3.out
                  rw [List.length_append, stepW_len, List.length_take, chunk_len, ← HL.out] at h2
                  rw [← HL.out, Nat.add_mul, Nat.one_mul] at h1
                  have : min n L = n := by omega
                  omega
                rw [← HL3.out] at hown
                obtain ⟨xs, hxs⟩ : ∃ xs, xs = stepW (plcK d k) tv i ++ (chunk (plcK d k) tv i).take n := ⟨_, rfl⟩
                rw [← hxs] at hown
                have HXS := Lib.hid hxs
                clear hxs
                go_region_law
                  ((refine step_append_lies _ (by rfl) _ _ _ (by rfl) (w.heap.size + 1) 3 i0 _ 1 8 Try.underlying29 hi0 hz0 hz1 hz2 rfl (by omega) (.slice A3 L3 c3) L3 (icells xs) (by rfl) ((hown.alloc _).drew)
                      ⟨wr.heap.size, 0, none⟩ 1 1 [.int .i64 s1] (by rfl) (by rfl) (World.news_of_block (cs := #[.int .i64 s1]) (t := 3) (fr := (0, 0)) (heap_alloc_new wr _)) (by simp [Value.oneCell'])
                      (by omega) (by unfold maxLen; omega) (by omega) (by simp; omega) (wr.heap.size + 1) (by simp) ?_; intro gg cap w3 hown1 hgrow hat hlt))
                all_goals
                  have HTW : TW ((wr.alloc (.cells #[.int .i64 s1] 3)).drew) (w.heap.size + 1) (.slice (some ⟨bo, oo, none⟩) L co) (.slice A3 L3 c3) (plcK d k) xs := by rw [HXS.out]; exact HT3.out.alloc _
                  have hlx : xs.length = L3 := by rw [HXS.out]; exact HL3.out.symm
                  have HOW : OW w3 (w.heap.size + 1) (.slice (some ⟨gg, 0, none⟩) (L3 + 1) cap) (xs ++ [s1]) := by
                    refine ⟨?_, ?_, ?_⟩
                    · rw [icells_app, List.length_append, hlx]; exact hown1
                    · intro x hx
                      rcases List.mem_append.1 hx with hx | hx
                      · exact HTW.2.1.2.1 x hx
                      · simp at hx; rw [hx]; exact hfs
                    · rw [List.length_append, hlx]; simp; omega
                  have HTN := Lib.hid (HTW.swap.app HOW hgrow (by
                    rcases hat with h | h
                    · exact Or.inl h.symm
                    · exact Or.inr (by show some gg = some ((wr.alloc (.cells #[.int .i64 s1] 3)).heap.size); rw [h]; simp))).swap
                  have HBN := Lib.hid (((HB3.out.alloc hnb3 (.cells #[.int .i64 s1] 3)).drew).grown hgrow (by show w.heap.size + 1 ≤ (wr.alloc (.cells #[.int .i64 s1] 3)).heap.size; simp; omega) (fun g hg => (HTW.2.1.lt g hg).1))
                  have hsn : w.heap.size + 1 ≤ w3.heap.size := by have := HBN.out.size; omega
                  have HXN := Lib.hid (show stepW (plcK d k) tv i ++ (chunk (plcK d k) tv i).take (n + 1) = xs ++ [s1] by rw [HCT.out, HXS.out, List.append_assoc])
                  clear hown hown1 hgrow hat HTW HOW hlx
                  go_wp2
                  go_roundw
                  case rel => exact ⟨n + 1, by have := HL.out; omega, by go_num, by rw [HXN.out]; exact HTN.out, HBN.out, hsn⟩
                  case measure => simp [intOf]; omega
              · obtain rfl : n = L := by omega
                have HT3 := Lib.hid hTT3; have HB3 := Lib.hid hB3
                obtain ⟨A3, L3, c3, hL3, hvn⟩ : ∃ An Ln cn, Ln = (stepW (plcK d k) tv i ++ (chunk (plcK d k) tv i).take n).length ∧ u5 = .slice An Ln cn := by
                  obtain ⟨A, c, e⟩ := hTT3.2.1.ri.slice
                  exact ⟨A, _, c, rfl, e⟩
                subst hvn
                have HN3 := Lib.hid (show stepW (plcK d k) tv (i + 1) = stepW (plcK d k) tv i ++ (chunk (plcK d k) tv i).take n by rw [stepW_succ, List.take_of_length_le (by rw [chunk_len]; have := HL.out; omega)])
                clear hTT3 hB3 hL3
                go_wp2
                go_roundw
                case rel => exact ⟨i + 1, by omega, by go_num, by rw [HN3.out]; exact HT3.out, HB3.out, hnb3⟩
                case measure => simp [intOf]; omega
          · obtain rfl : i = ev.toNat := by omega
            have hie : ¬ ((ev.toNat : Int) < ev) := by omega
            have HTT := Lib.hid hTT; have HBB2 := Lib.hid hB2
            have HN2 := Lib.hid (plcK_succ HEV.out HTV.out)
            have hev2 : (ev.toNat : Int) = ev := Int.toNat_of_nonneg hevb.1
            clear hTT hB2 hLn
            go_wp2
            go_roundw
            case rel => exact ⟨k + 1, by omega, by go_num, by rw [HN2.out]; exact HTT.out.2.1, HBB2.out, hnb2⟩
            case measure => simp [intOf]; omega
      · obtain rfl : k = d.ex.length := by omega
        obtain ⟨y1, y2, y3⟩ := (HD.out.keep (hB.mono (by omega))).c3
        have HO := Lib.hid hO; have HBB := Lib.hid (HB.out.trans (hB.mono (by omega)))
        clear hO hB
        go_wp2
        go_ret
        rw [HP.out]
        exact ⟨_, rfl, HO.out.more (by omega), HBB.out⟩
end Go.Proofs.Ytkgdnlknnjiglaa

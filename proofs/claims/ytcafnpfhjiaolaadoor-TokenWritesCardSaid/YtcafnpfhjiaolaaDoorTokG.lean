/- Contract of package token's Scan: the tokens of a text, or where one is malformed. -/
import Derived.Test.YtcafnpfhjiaolaaDoorTokF
import Derived.Test.YtcafnpfhjiaolaaDoorTokN
import Derived.Laws.AppendOwn
import Derived.OwnWalk
namespace Go.Proofs.YtcafnpfhjiaolaaDoor
open Go.RowKit

/-- The cells of tokens. -/
def tcells (l : List Tok) : List Value := l.flatMap fun t => [.string t.1, .string ⟨t.2.toArray⟩]
/-- What Scan leaves. -/
def ScanPost (L : List UInt8) (w : World) (e : Ending) (w' : World) : Prop :=
  ∃ v, e = .returned (.tuple #[v, .int .i64 ((scanP L).2.1 : Int), .int .i64 ((scanP L).2.2 : Int)]) ∧ w'.ownsRow w.heap.size 30 2 v (scanP L).1.length (tcells (scanP L).1) ∧ Below w.heap.size w w'

theorem scan_post {L : List UInt8} {w w' : World} {v : Value} {l : List Tok} {a e : Nat} (h : scanP L = (l, a, e)) (ho : w'.ownsRow w.heap.size 30 2 v l.length (tcells l)) (hB : Below w.heap.size w w') :
    ScanPost L w (.returned (.tuple #[v, .int .i64 (a : Int), .int .i64 (e : Int)])) w' := ⟨v, by rw [h], by rw [h]; exact ho, hB⟩
theorem tcells_app (a b : List Tok) : tcells (a ++ b) = tcells a ++ tcells b := by simp [tcells]
theorem own_below {w w' : World} {b : Nat} {e : TypeId} {sz n : Nat} {v : Value} {xs : List Value} (h : w.ownsRow b e sz v n xs) (hb : Below w.heap.size w w') : w'.ownsRow b e sz v n xs := by
  have hlt := h.lt
  refine ⟨h.1, ?_⟩
  rcases h.2 with h0 | ⟨g, cap, cur, rfl, hg, hc, hr⟩
  · exact .inl h0
  · exact .inr ⟨g, cap, cur, rfl, hg, (hb.block g (hlt g rfl).2).trans hc, hr⟩
theorem info30 : (Tryd.prog.info? 30).map (fun i => (i.zero, i.size, i.bytes)) = some (some (.agg #[.string ⟨#[]⟩, .string ⟨#[]⟩]), 2, 32) := by kernel_rfl

/-- The relation at the head of Scan's loop. -/
def SRel (s : ByteArray) (i : Nat) (w : World) (v x : Value) (wr : World) : Prop :=
  ∃ (j : Nat) (acc : List Tok), j ≤ s.size ∧ acc.length ≤ j ∧ x = .int .i64 (j : Int) ∧ pre acc (scanL s.data.toList j) = scanL s.data.toList i ∧ wr.ownsRow w.heap.size 30 2 v acc.length (tcells acc) ∧ Below w.heap.size w wr

set_option maxRecDepth 100000 in
set_option maxHeartbeats 2000000 in
theorem Scan_c (s : ByteArray) (hs : s.size ≤ 1000000) (w : World) (ht : TB w) :
    Calls Tryd.prog 9 #[.string s] w (ScanPost s.data.toList w) := by
  have hl : s.data.toList.length = s.size := by simp
  have hb := Lib.hid (runOk_c s 0 (by omega) hs w)
  by_cases hbad : rn cOk s.data.toList 0 < s.size
  · have hres : scanP s.data.toList = ([], rn cOk s.data.toList 0, 3) := by unfold scanP; rw [if_pos (by omega)]
    have Hres := Lib.hid hres; clear hres
    generalize rn cOk s.data.toList 0 = r at *
    clear hl ht
    go_enter Tryd.func9, Tryd.ntmps9
    go_wp2_with fail
    refine hb.out.mono ?_
    rintro e w1 ⟨rfl, rfl⟩
    go_wp2
    go_ret3
    exact scan_post Hres.out (World.ownsRow_nil _ _ _ _) (Below.refl _ _)
  · have ha : Asc s := by
      intro j b hj
      have hjl : j < s.size := by have := (List.getElem?_eq_some_iff.1 hj).1; omega
      have hle := rn_le cOk s.data.toList 0 (by omega)
      have := (rn_in (p := cOk) (L := s.data.toList) (i := 0) j (by omega) (by omega)).1
      have hbt : bt s.data.toList j = b.toNat := by unfold bt; rw [List.getD_eq_getElem?_getD, hj]; rfl
      rw [hbt] at this
      unfold cOk at this; simp at this; omega
    have hres : scanP s.data.toList = match scanL s.data.toList (rn (eqB 32) s.data.toList 0) with | .error a => ([], a, 3) | .ok l => (l, 0, 0) := by unfold scanP; rw [if_neg (by omega)]; rfl
    have hg0 := rn_le (eqB 32) s.data.toList 0 (by omega)
    have hb0 := Lib.hid (runBlank_c s 0 (by omega) hs w)
    generalize rn (eqB 32) s.data.toList 0 = i0 at *
    rw [hl] at hg0
    have Hres := Lib.hid hres; have Ha := Lib.hid ha; have Ht := Lib.hid ht
    generalize rn cOk s.data.toList 0 = r at *
    clear hres ha ht hl
    go_enter Tryd.func9, Tryd.ntmps9
    go_wp2_with fail
    refine hb.out.mono ?_
    rintro e w1 ⟨rfl, rfl⟩
    go_wp2_with fail
    refine hb0.out.mono ?_
    rintro e w1 ⟨rfl, rfl⟩
    go_wp2_with fail
    go_loopw [7, 8] (fun v x wr => SRel s i0 w v x wr) (fun _ x wr => s.size - (intOf x).toNat)
    case atStart => exact ⟨i0, [], hg0, by simp, rfl, by cases scanL s.data.toList i0 <;> rfl, World.ownsRow_nil _ _ _ _, Below.refl _ _⟩
    case round =>
      obtain ⟨j, acc, hj, hacc, rfl, hpre, hown, hB⟩ := hrel
      have Hpre := Lib.hid hpre; clear hpre
      by_cases hlt : j < s.size
      · rcases hn : nxtP s.data.toList j with _ | t
        · have hfin : scanP s.data.toList = ([], j, 3) := by rw [Hres.out, ← Hpre.out, scan_bad (by simpa using hlt) hn]; rfl
          have Hfin := Lib.hid hfin; have Hn := Lib.hid hn; clear hfin hn
          have HT := Lib.hid (Ht.out.keep hB)
          go_wp2_with fail
          refine (read_c s j hlt hs Ha.out wr HT.out).mono ?_
          rw [Hn.out]
          rintro e w1 ⟨rfl, hb1⟩
          have hB := bt_ hB hb1
          simp only [tokV]
          go_wp2
          go_ret3
          exact scan_post Hfin.out (World.ownsRow_nil _ _ _ _) (hB.alloc hB.size _)
        · obtain ⟨⟨t1, t2⟩, e⟩ := t
          obtain ⟨hje, hel⟩ := nxtP_gt s.data.toList j (by simpa using hlt) _ _ hn
          have hpre := (scan_step (acc := acc) (by simpa using hlt) hn).symm.trans Hpre.out
          have hg1 := rn_ge (eqB 32) s.data.toList e
          have hg2 := rn_le (eqB 32) s.data.toList e hel
          have hr2 := fun wx => runBlank_c s e (by simpa using hel) hs wx
          generalize rn (eqB 32) s.data.toList e = j2 at *
          rw [show s.data.toList.length = s.size by simp] at hel hg2
          have Hn := Lib.hid hn; have Hp2 := Lib.hid hpre; have Hr2 := Lib.hid hr2; clear hn hpre hr2
          have HT := Lib.hid (Ht.out.keep hB)
          go_wp2_with fail
          refine (read_c s j hlt hs Ha.out wr HT.out).mono ?_
          rw [Hn.out]
          rintro ee w1 ⟨rfl, hb1⟩
          have hB1 := bt_ hB hb1
          have hown1 : w1.ownsRow w.heap.size 30 2 u7 acc.length (tcells acc) := own_below hown hb1
          simp only [tokV]
          obtain ⟨i0', hi, hz0, hz1, hz2⟩ := info_parts info30
          have hown2 := hown1.alloc (.cells #[.string t1, .string ⟨t2.toArray⟩] 30)
          have hB2 := hB1.alloc hB1.size (.cells #[.string t1, .string ⟨t2.toArray⟩] 30)
          clear hown
          go_wp2_with (at_builtin; refine wpList_append_own _ rfl _ _ 23 rfl w.heap.size 30 i0' (.agg #[.string ⟨#[]⟩, .string ⟨#[]⟩]) 2 32 Tryd.underlying23 hi hz0 hz1 hz2 rfl (by decide) _ _ _ rfl (hown2.alloc _) ⟨w1.heap.size + 1, 0, none⟩ 1 1 [.string t1, .string ⟨t2.toArray⟩] rfl rfl ?c1 ?c2 ?c3 ?c4 ?c5 ?_)
          case c1 =>
            intro jj u hjj
            have h := Has.new (w1.alloc (.cells #[.string t1, .string ⟨t2.toArray⟩] 30)) [.string t1, .string ⟨t2.toArray⟩] 30
            rw [World.size_alloc] at h
            rw [Addr.add_lit, Nat.zero_add]
            exact (h jj u hjj).1
          case c2 =>
            intro u hu
            simp only [List.mem_cons, List.not_mem_nil, or_false] at hu
            rcases hu with rfl | rfl <;> rfl
          case c3 => unfold maxLen; omega
          case c4 => omega
          case c5 => simp; have := hB1.size; omega
          intro v' w3 hown' hgrow _
          have hB3 : Below w.heap.size w w3 := (hB2.alloc hB2.size _).grown hgrow (by simp; have := hB1.size; omega) (fun k hk => (hown2.lt k hk).1)
          clear hgrow hown2 hown1 hB2 hB1
          go_wp2_with fail
          refine (Hr2.out _).mono ?_
          rintro ee w4 ⟨rfl, rfl⟩
          go_wp2
          go_roundw
          case rel => exact ⟨j2, acc ++ [(t1, t2)], hg2, by simp; omega, rfl, Hp2.out, by rw [tcells_app, List.length_append]; exact hown', hB3⟩
          case measure => simp [intOf]; omega
      · have hfin : scanP s.data.toList = (acc, 0, 0) := by rw [Hres.out, ← Hpre.out, scan_end (by simpa using hlt)]; simp [pre]
        have Hfin := Lib.hid hfin; clear hfin
        go_wp2
        go_ret3
        exact scan_post Hfin.out hown hB
end Go.Proofs.YtcafnpfhjiaolaaDoor

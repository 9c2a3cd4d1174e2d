/- Contract of the document's answer's Scan: the tokens of a text, or where one is malformed. -/
import Derived.Test.YtcafnpfhjiaolaaDoorRefI
import Derived.Test.YtcafnpfhjiaolaaDoorTokG
namespace Go.Proofs.YtcafnpfhjiaolaaDoor
open Go.RowKit

/-- The relation at the head of Scan's second loop. -/
def RRel (s : ByteArray) (w : World) (v x : Value) (wr : World) : Prop :=
  ∃ (j : Nat) (acc : List Tok), j ≤ s.size ∧ acc.length ≤ j ∧ x = .int .i64 (j : Int) ∧ pre acc (scanL s.data.toList (rn (eqB 32) s.data.toList j)) = scanL s.data.toList (rn (eqB 32) s.data.toList 0) ∧ wr.ownsRow w.heap.size 30 2 v acc.length (tcells acc) ∧ Below w.heap.size w wr

set_option maxRecDepth 100000 in
set_option maxHeartbeats 2000000 in
theorem rScan_c (s : ByteArray) (hs : s.size ≤ 400000) (w : World) :
    Calls Tryd.prog 10 #[.string s] w (ScanPost s.data.toList w) := by
  have hl : s.data.toList.length = s.size := by simp
  go_enter Tryd.func10, Tryd.ntmps10
  go_wp2_with fail
  go_loop [5] (fun t => ∃ k : Nat, k ≤ s.size ∧ t = .int .i64 (k : Int) ∧ rn cOk s.data.toList 0 = rn cOk s.data.toList k) (fun t => s.size - (intOf t).toNat)
  case atStart => exact ⟨0, by omega, rfl, rfl⟩
  case round =>
    obtain ⟨k, hk, rfl, hr⟩ := hrel
    by_cases hlt : k < s.size
    · have Hb := bt_get s k hlt
      rcases hp : cOk (bt s.data.toList k) with _ | _
      · have hrn : rn cOk s.data.toList 0 = k := by rw [hr, rn_stop fun _ => hp]
        have Hres := Lib.hid (show scanP s.data.toList = ([], k, 3) by unfold scanP; rw [if_pos (by omega), hrn])
        rw [Hb] at hp
        have h12 : (s[k].toNat : Int) < 32 ∨ 32 ≤ (s[k].toNat : Int) ∧ 126 < (s[k].toNat : Int) := by unfold cOk at hp; simp at hp; omega
        clear hp hrn hr Hb hl
        rcases h12 with h1 | ⟨h1, h2⟩
        · go_wp2
          go_ret3
          exact scan_post Hres.out (World.ownsRow_nil _ _ _ _) (Below.refl _ _)
        · go_wp2
          go_ret3
          exact scan_post Hres.out (World.ownsRow_nil _ _ _ _) (Below.refl _ _)
      · have Hst := Lib.hid (show rn cOk s.data.toList 0 = rn cOk s.data.toList (k + 1) by rw [hr, rn_step (by omega) hp])
        rw [Hb] at hp
        have h12 : 32 ≤ (s[k].toNat : Int) ∧ (s[k].toNat : Int) ≤ 126 := by unfold cOk at hp; simp at hp; omega
        obtain ⟨h1, h2⟩ := h12
        clear hp hr Hb hl
        go_wp2
        go_round
        case rel => exact ⟨k + 1, by omega, by go_num, Hst.out⟩
        case measure => simp [intOf]; omega
    · obtain rfl : k = s.size := by omega
      have hrn : rn cOk s.data.toList 0 = s.size := by rw [hr, rn_stop fun h => absurd h (by omega)]
      have hres : scanP s.data.toList = match scanL s.data.toList (rn (eqB 32) s.data.toList 0) with | .error a => ([], a, 3) | .ok l => (l, 0, 0) := by unfold scanP; rw [if_neg (by omega)]; rfl
      have Hres := Lib.hid hres
      clear hres hrn hr hl hlt hk
      go_wp2_with fail
      go_loopw [6, 7] (fun v x wr => RRel s w v x wr) (fun _ x wr => s.size - (intOf x).toNat)
      case atStart => exact ⟨0, [], by omega, by simp, rfl, by cases scanL s.data.toList (rn (eqB 32) s.data.toList 0) <;> rfl, World.ownsRow_nil _ _ _ _, Below.refl _ _⟩
      case round =>
        obtain ⟨j, acc, hj, hacc, rfl, hpre, hown, hB⟩ := hrel
        by_cases hlt : j < s.size
        · have Hb := bt_get s j hlt
          rcases hp : eqB 32 (bt s.data.toList j) with _ | _
          · have hrj : rn (eqB 32) s.data.toList j = j := rn_stop fun _ => hp
            rw [hrj] at hpre
            have h32 : ((s[j].toNat : Int) == 32) = false := by unfold eqB at hp; rw [Hb] at hp; simp at hp ⊢; omega
            clear hp Hb hrj
            have Hpre := Lib.hid hpre; clear hpre
            rcases hn : nxtP s.data.toList j with _ | t
            · have hfin : scanP s.data.toList = ([], j, 3) := by rw [Hres.out, ← Hpre.out, scan_bad (by simpa using hlt) hn]; rfl
              have Hfin := Lib.hid hfin; have Hn := Lib.hid hn; clear hfin hn
              go_wp2_with fail
              refine (next_c s j hlt hs wr).mono ?_
              rintro e w1 ⟨a, b, n, rfl, _, hb1⟩
              rw [Hn.out]
              have hB := bt_ hB hb1
              simp only [Option.isSome_none]
              go_wp2
              go_ret3
              exact scan_post Hfin.out (World.ownsRow_nil _ _ _ _) (hB.alloc hB.size _)
            · obtain ⟨⟨t1, t2⟩, e⟩ := t
              obtain ⟨hje, hel⟩ := nxtP_gt s.data.toList j (by simpa using hlt) _ _ hn
              have hpre := (scan_step (acc := acc) (by simpa using hlt) hn).symm.trans Hpre.out
              rw [show s.data.toList.length = s.size by simp] at hel
              have Hn := Lib.hid hn; have Hp2 := Lib.hid hpre; clear hn hpre
              go_wp2_with fail
              refine (next_c s j hlt hs wr).mono ?_
              rintro ee w1 ⟨a, b, n, rfl, hab, hb1⟩
              obtain ⟨rfl, rfl, rfl⟩ := hab _ _ Hn.out
              rw [Hn.out]
              clear hab
              have hB1 := bt_ hB hb1
              have hown1 : w1.ownsRow w.heap.size 30 2 u6 acc.length (tcells acc) := own_below hown hb1
              simp only [Option.isSome_some]
              obtain ⟨i0', hi, hz0, hz1, hz2⟩ := info_parts info30
              have hown2 := hown1.alloc (.cells #[.string a, .string ⟨t2.toArray⟩] 30)
              have hB2 := hB1.alloc hB1.size (.cells #[.string a, .string ⟨t2.toArray⟩] 30)
              clear hown
              go_wp2_with (at_builtin; refine wpList_append_own _ rfl _ _ 23 rfl w.heap.size 30 i0' (.agg #[.string ⟨#[]⟩, .string ⟨#[]⟩]) 2 32 Tryd.underlying23 hi hz0 hz1 hz2 rfl (by decide) _ _ _ rfl (hown2.alloc _) ⟨w1.heap.size + 1, 0, none⟩ 1 1 [.string a, .string ⟨t2.toArray⟩] rfl rfl ?c1 ?c2 ?c3 ?c4 ?c5 ?_)
              case c1 =>
                intro jj u hjj
                have h := Has.new (w1.alloc (.cells #[.string a, .string ⟨t2.toArray⟩] 30)) [.string a, .string ⟨t2.toArray⟩] 30
                rw [World.size_alloc] at h
                rw [Addr.add_lit, Nat.zero_add]
                exact (h jj u hjj).1
              case c2 =>
                intro u hu
                simp only [List.mem_cons, List.not_mem_nil, or_false] at hu
                rcases hu with rfl | rfl <;> rfl
              case c3 => unfold maxLen; omega
              case c4 => omega
              case c5 => simp; have := hB1.size; omega
              intro v' w3 hown' hgrow _
              have hB3 : Below w.heap.size w w3 := (hB2.alloc hB2.size _).grown hgrow (by simp; have := hB1.size; omega) (fun k hk => (hown2.lt k hk).1)
              clear hgrow hown2 hown1 hB2 hB1
              go_wp2
              go_roundw
              case rel => exact ⟨e, acc ++ [(a, t2)], hel, by simp; omega, by go_num, Hp2.out, by rw [tcells_app, List.length_append]; exact hown', hB3⟩
              case measure => simp [intOf]; omega
          · have hrj : rn (eqB 32) s.data.toList j = rn (eqB 32) s.data.toList (j + 1) := rn_step (by simpa using hlt) hp
            rw [hrj] at hpre
            have h32 : ((s[j].toNat : Int) == 32) = true := by unfold eqB at hp; rw [Hb] at hp; simp at hp ⊢; omega
            have Hpre := Lib.hid hpre
            clear hp Hb hrj hpre
            go_wp2
            go_roundw
            case rel => exact ⟨j + 1, acc, by omega, by omega, by go_num, Hpre.out, hown, hB⟩
            case measure => simp [intOf]; omega
        · have hrj : rn (eqB 32) s.data.toList j = j := rn_stop fun h => absurd h (by simpa using hlt)
          rw [hrj] at hpre
          have hfin : scanP s.data.toList = (acc, 0, 0) := by rw [Hres.out, ← hpre, scan_end (by simpa using hlt)]; simp [pre]
          have Hfin := Lib.hid hfin; clear hfin hpre hrj
          go_wp2
          go_ret3
          exact scan_post Hfin.out hown hB
end Go.Proofs.YtcafnpfhjiaolaaDoor

/- Contract of the document's answer's next: the token at a place. -/
import Derived.Test.YtcafnpfhjiaolaaDoorRefG
namespace Go.Proofs.YtcafnpfhjiaolaaDoor
open Go.RowKit

theorem res20 (tm : Array Value) (R : Nat) (a b : Value) (n : Int) (c : Bool) (w : World) (hp : tm[4]?.getD undef = .pointer (some ⟨R, 0, none⟩)) (h5 : tm[5]?.getD undef = .int .i64 n) (h6 : tm[6]?.getD undef = .bool c) (h : Has w R [a, b]) :
    (results Tryd.f20 tm).run Tryd.prog w = .ok (.tuple #[.agg #[a, b], .int .i64 n, .bool c]) w := by
  obtain ⟨h0, h1⟩ := h.c2
  simp [results, Tryd.results20, go_sem, hp, h5, h6, h0, h1]
/-- What next answers: where a token stands, that token and its length; else false. -/
def NPost (L : List UInt8) (i : Nat) (w : World) (e : Ending) (w' : World) : Prop :=
  ∃ (a b : ByteArray) (n : Int), e = .returned (.tuple #[.agg #[.string a, .string b], .int .i64 n, .bool (nxtP L i).isSome]) ∧ (∀ t z, nxtP L i = some (t, z) → a = t.1 ∧ b = ⟨t.2.toArray⟩ ∧ n = (z : Int) - (i : Int)) ∧ Below w.heap.size w w'
theorem np_some {L : List UInt8} {i : Nat} {w w' : World} {a : ByteArray} {l : List UInt8} {z : Nat} {n : Int} (h : nxtP L i = some ((a, l), z)) (hn : n = (z : Int) - (i : Int)) (hB : Below w.heap.size w w') :
    NPost L i w (.returned (.tuple #[.agg #[.string a, .string ⟨l.toArray⟩], .int .i64 n, .bool true])) w' :=
  ⟨a, ⟨l.toArray⟩, n, by rw [h]; rfl, fun t z' h2 => by rw [h] at h2; injection h2 with h2; injection h2 with h2 h3; subst h2; subst h3; exact ⟨rfl, rfl, hn⟩, hB⟩
theorem np_none {L : List UInt8} {i : Nat} {w w' : World} {a b : ByteArray} {n : Int} (h : nxtP L i = none) (hB : Below w.heap.size w w') :
    NPost L i w (.returned (.tuple #[.agg #[.string a, .string b], .int .i64 n, .bool false])) w' :=
  ⟨a, b, n, by rw [h]; rfl, fun t z h2 => (by rw [h] at h2; cases h2), hB⟩
theorem num_gt {L : List UInt8} {i : Nat} (h : cD (bt L i) = true ∨ bt L i = 46 ∧ cD (bt L (i + 1)) = true) (hi : i < L.length) {t : Tok} {z : Nat} (hn : numP L i = some (t, z)) : i < z := (numP_gt L i h hi t z hn).1
set_option maxRecDepth 100000 in
set_option maxHeartbeats 2000000 in
theorem next_name (s : ByteArray) (i : Nat) (hi : i < s.size) (hs : s.size ≤ 400000) (w : World) (hc : cL (bt s.data.toList i) = true) :
    Calls Tryd.prog 20 #[.string s, .int .i64 (i : Int)] w (NPost s.data.toList i w) := by
  have hl : s.data.toList.length = s.size := by simp
  have hR := Has.new w [.string ⟨#[]⟩, .string ⟨#[]⟩] 30
  have hB : Below w.heap.size w (w.alloc (.cells #[.string ⟨#[]⟩, .string ⟨#[]⟩] 30)) := (Below.refl _ _).alloc (Nat.le_refl _) _
  have hnx : nxtP s.data.toList i = nameP s.data.toList i := by unfold nxtP; rw [if_pos hc]
  have hrl := rn_le cI s.data.toList i (by omega)
  have Hb := Lib.hid (bt_get s i hi).symm
  have Hc := Lib.hid hc
  have Hnx := Lib.hid hnx
  have Hrl := Lib.hid hrl
  clear hc hnx hrl
  go_enter Tryd.func20, Tryd.ntmps20
  go_wp2_with fail
  refine (rLetter_c _ _).mono ?_
  rw [Hb.out, Hc.out]
  rintro e w1 ⟨rfl, rfl⟩
  go_wp2_with fail
  go_loop [8] (fun t => ∃ k : Nat, k ≤ s.size ∧ t = .int .i64 (k : Int) ∧ rn cI s.data.toList i = rn cI s.data.toList (i + k)) (fun t => s.size - (intOf t).toNat)
  case atStart => exact ⟨0, by omega, rfl, rfl⟩
  case round =>
    obtain ⟨k, hk, rfl, hr⟩ := hrel
    have Hr := Lib.hid hr; clear hr
    rcases hp : cI (bt s.data.toList (i + k)) with _ | _
    · have hrn : rn cI s.data.toList i = i + k := by rw [Hr.out, rn_stop fun _ => hp]
      have hik : i + k ≤ s.size := by have := Hrl.out; omega
      have Hp := Lib.hid hp
      by_cases h12 : k ≤ 12
      · have Hx := Lib.hid (show nxtP s.data.toList i = some ((kName, low (sub s.data.toList i (i + k))), i + k) by
          rw [Hnx.out]; unfold nameP; rw [hrn, if_pos (by omega)])
        clear hp hl hrn
        go_wp2_with fail
        refine (rAt_c s (i + k) _).mono ?_
        rintro e w' ⟨rfl, rfl⟩
        go_wp2_with fail
        refine (rInner_c _ _).mono ?_
        rw [Hp.out]
        rintro e w' ⟨rfl, rfl⟩
        go_wp2_with fail
        refine (rLower_c _ (by rw [ByteArray.size_extract]; omega) _).mono ?_
        rintro e w' ⟨rfl, hb⟩
        rw [sub_ext]
        have hR := hR.keep hb
        have hB := bt_ hB hb
        obtain ⟨hr0, hr1⟩ := hR.c2
        obtain ⟨hq0, hq1⟩ := hR.f2
        clear hb
        go_wp2
        rw [show decide ((k : Int) ≤ 12) = true by simp; omega]
        exact bodyPost_ret (v := _) (res20 _ _ _ _ _ _ _ rfl rfl rfl (hR.set2 _ _)) rfl (np_some Hx.out (by omega) ((hB.st (Nat.le_refl _)).st (Nat.le_refl _)))
      · have Hx := Lib.hid (show nxtP s.data.toList i = none by
          rw [Hnx.out]; unfold nameP; rw [hrn, if_neg (by omega)])
        clear hp hl hrn
        go_wp2_with fail
        refine (rAt_c s (i + k) _).mono ?_
        rintro e w' ⟨rfl, rfl⟩
        go_wp2_with fail
        refine (rInner_c _ _).mono ?_
        rw [Hp.out]
        rintro e w' ⟨rfl, rfl⟩
        go_wp2_with fail
        refine (rLower_c _ (by rw [ByteArray.size_extract]; omega) _).mono ?_
        rintro e w' ⟨rfl, hb⟩
        rw [sub_ext]
        have hR := hR.keep hb
        have hB := bt_ hB hb
        obtain ⟨hr0, hr1⟩ := hR.c2
        obtain ⟨hq0, hq1⟩ := hR.f2
        clear hb
        go_wp2
        rw [show decide ((k : Int) ≤ 12) = false by simp; omega]
        exact bodyPost_ret (v := _) (res20 _ _ _ _ _ _ _ rfl rfl rfl (hR.set2 _ _)) rfl (np_none Hx.out ((hB.st (Nat.le_refl _)).st (Nat.le_refl _)))
    · have hin := in_of (p := cI) rfl hp
      have Hst := Lib.hid (show rn cI s.data.toList i = rn cI s.data.toList (i + (k + 1)) by rw [Hr.out, rn_step hin hp]; rfl)
      have Hp := Lib.hid hp
      have hk2 : k + 1 ≤ s.size := by omega
      clear hp hl hin
      go_wp2_with fail
      refine (rAt_c s (i + k) _).mono ?_
      rintro e w' ⟨rfl, rfl⟩
      go_wp2_with fail
      refine (rInner_c _ _).mono ?_
      rw [Hp.out]
      rintro e w' ⟨rfl, rfl⟩
      go_wp2
      go_round
      case rel => exact ⟨k + 1, hk2, by go_num, Hst.out⟩
      case measure => simp [intOf]; omega

set_option maxRecDepth 100000 in
set_option maxHeartbeats 2000000 in
theorem next_dig (s : ByteArray) (i : Nat) (hi : i < s.size) (hs : s.size ≤ 400000) (w : World) (hc : cL (bt s.data.toList i) = false) (hd : cD (bt s.data.toList i) = true) :
    Calls Tryd.prog 20 #[.string s, .int .i64 (i : Int)] w (NPost s.data.toList i w) := by
  have hl : s.data.toList.length = s.size := by simp
  have hR := Has.new w [.string ⟨#[]⟩, .string ⟨#[]⟩] 30
  have hB : Below w.heap.size w (w.alloc (.cells #[.string ⟨#[]⟩, .string ⟨#[]⟩] 30)) := (Below.refl _ _).alloc (Nat.le_refl _) _
  have hn : cD (bt s.data.toList i) = true ∨ bt s.data.toList i = 46 ∧ cD (bt s.data.toList (i + 1)) = true := Or.inl hd
  have Hd := Lib.hid hd
  have hnx : nxtP s.data.toList i = numP s.data.toList i := by unfold nxtP; rw [if_neg (by simp [hc]), if_pos hn]
  have Hb := Lib.hid (bt_get s i hi).symm
  have Hnc := Lib.hid (number_c s i (by omega) hs hn (w.alloc (.cells #[.string ⟨#[]⟩, .string ⟨#[]⟩] 30)))
  have Hgt := Lib.hid (fun t z => num_gt (t := t) (z := z) hn (by omega))
  have Hc := Lib.hid hc
  rcases hm : numP s.data.toList i with _ | ⟨⟨a, l⟩, z⟩
  · have Hx := Lib.hid (hnx.trans hm)
    have Hm := Lib.hid hm
    clear hc hn hnx hm hl hd
    go_enter Tryd.func20, Tryd.ntmps20
    go_wp2_with fail
    refine (rLetter_c _ _).mono ?_
    rw [Hb.out, Hc.out]
    rintro e w1 ⟨rfl, rfl⟩
    go_wp2_with fail
    refine (rDigit_c _ _).mono ?_
    rw [Hd.out]
    rintro e w1 ⟨rfl, rfl⟩
    go_wp2_with fail
    refine Hnc.out.mono ?_
    rw [Hm.out]
    rintro e w1 ⟨rfl, hb⟩
    simp only [Option.map_none, tokV]
    have hR := hR.keep hb
    have hB := bt_ hB hb
    clear hb
    obtain ⟨hr0, hr1⟩ := hR.c2
    obtain ⟨hq0, hq1⟩ := hR.f2
    go_wp2
    exact bodyPost_ret (v := _) (res20 _ _ _ _ _ _ _ rfl rfl rfl (hR.set2 _ _)) rfl (np_none Hx.out ((hB.st (Nat.le_refl _)).st (Nat.le_refl _)))
  · have Hx := Lib.hid (hnx.trans hm)
    have Hm := Lib.hid hm; have hz := Hgt.out _ _ hm
    clear hc hn hnx hm hl hd
    go_enter Tryd.func20, Tryd.ntmps20
    go_wp2_with fail
    refine (rLetter_c _ _).mono ?_
    rw [Hb.out, Hc.out]
    rintro e w1 ⟨rfl, rfl⟩
    go_wp2_with fail
    refine (rDigit_c _ _).mono ?_
    rw [Hd.out]
    rintro e w1 ⟨rfl, rfl⟩
    go_wp2_with fail
    refine Hnc.out.mono ?_
    rw [Hm.out]
    rintro e w1 ⟨rfl, hb⟩
    simp only [Option.map_some, tokV]
    have hR := hR.keep hb
    have hB := bt_ hB hb
    clear hb
    obtain ⟨hr0, hr1⟩ := hR.c2
    obtain ⟨hq0, hq1⟩ := hR.f2
    go_wp2
    exact bodyPost_ret (v := _) (res20 _ _ _ _ _ _ _ rfl rfl rfl (hR.set2 _ _)) rfl (np_some Hx.out (by omega) ((hB.st (Nat.le_refl _)).st (Nat.le_refl _)))

set_option maxRecDepth 100000 in
set_option maxHeartbeats 2000000 in
theorem next_pnt (s : ByteArray) (i : Nat) (hi : i < s.size) (hs : s.size ≤ 400000) (w : World) (hc : cL (bt s.data.toList i) = false) (hp : bt s.data.toList i = 46) (hd1 : cD (bt s.data.toList (i + 1)) = true) :
    Calls Tryd.prog 20 #[.string s, .int .i64 (i : Int)] w (NPost s.data.toList i w) := by
  have hl : s.data.toList.length = s.size := by simp
  have hR := Has.new w [.string ⟨#[]⟩, .string ⟨#[]⟩] 30
  have hB : Below w.heap.size w (w.alloc (.cells #[.string ⟨#[]⟩, .string ⟨#[]⟩] 30)) := (Below.refl _ _).alloc (Nat.le_refl _) _
  have hn : cD (bt s.data.toList i) = true ∨ bt s.data.toList i = 46 ∧ cD (bt s.data.toList (i + 1)) = true := Or.inr ⟨hp, hd1⟩
  have Hd := Lib.hid (show cD 46 = false from rfl)
  have Hd1 := Lib.hid hd1
  have Hp := Lib.hid hp
  have hnx : nxtP s.data.toList i = numP s.data.toList i := by unfold nxtP; rw [if_neg (by simp [hc]), if_pos hn]
  have Hb := Lib.hid (bt_get s i hi).symm
  have Hnc := Lib.hid (number_c s i (by omega) hs hn (w.alloc (.cells #[.string ⟨#[]⟩, .string ⟨#[]⟩] 30)))
  have Hgt := Lib.hid (fun t z => num_gt (t := t) (z := z) hn (by omega))
  have Hc := Lib.hid hc
  rcases hm : numP s.data.toList i with _ | ⟨⟨a, l⟩, z⟩
  · have Hx := Lib.hid (hnx.trans hm)
    have Hm := Lib.hid hm
    clear hc hn hnx hm hl hp hd1
    go_enter Tryd.func20, Tryd.ntmps20
    go_wp2_with fail
    refine (rLetter_c _ _).mono ?_
    rw [Hb.out, Hc.out, Hp.out]
    rintro e w1 ⟨rfl, rfl⟩
    go_wp2_with fail
    refine (rDigit_c _ _).mono ?_
    rw [Hd.out]
    rintro e w1 ⟨rfl, rfl⟩
    go_wp2_with fail
    refine (rAt_c s (i + 1) _).mono ?_
    rintro e w1 ⟨rfl, rfl⟩
    go_wp2_with fail
    refine (rDigit_c _ _).mono ?_
    rw [Hd1.out]
    rintro e w1 ⟨rfl, rfl⟩
    go_wp2_with fail
    refine Hnc.out.mono ?_
    rw [Hm.out]
    rintro e w1 ⟨rfl, hb⟩
    simp only [Option.map_none, tokV]
    have hR := hR.keep hb
    have hB := bt_ hB hb
    clear hb
    obtain ⟨hr0, hr1⟩ := hR.c2
    obtain ⟨hq0, hq1⟩ := hR.f2
    go_wp2
    exact bodyPost_ret (v := _) (res20 _ _ _ _ _ _ _ rfl rfl rfl (hR.set2 _ _)) rfl (np_none Hx.out ((hB.st (Nat.le_refl _)).st (Nat.le_refl _)))
  · have Hx := Lib.hid (hnx.trans hm)
    have Hm := Lib.hid hm; have hz := Hgt.out _ _ hm
    clear hc hn hnx hm hl hp hd1
    go_enter Tryd.func20, Tryd.ntmps20
    go_wp2_with fail
    refine (rLetter_c _ _).mono ?_
    rw [Hb.out, Hc.out, Hp.out]
    rintro e w1 ⟨rfl, rfl⟩
    go_wp2_with fail
    refine (rDigit_c _ _).mono ?_
    rw [Hd.out]
    rintro e w1 ⟨rfl, rfl⟩
    go_wp2_with fail
    refine (rAt_c s (i + 1) _).mono ?_
    rintro e w1 ⟨rfl, rfl⟩
    go_wp2_with fail
    refine (rDigit_c _ _).mono ?_
    rw [Hd1.out]
    rintro e w1 ⟨rfl, rfl⟩
    go_wp2_with fail
    refine Hnc.out.mono ?_
    rw [Hm.out]
    rintro e w1 ⟨rfl, hb⟩
    simp only [Option.map_some, tokV]
    have hR := hR.keep hb
    have hB := bt_ hB hb
    clear hb
    obtain ⟨hr0, hr1⟩ := hR.c2
    obtain ⟨hq0, hq1⟩ := hR.f2
    go_wp2
    exact bodyPost_ret (v := _) (res20 _ _ _ _ _ _ _ rfl rfl rfl (hR.set2 _ _)) rfl (np_some Hx.out (by omega) ((hB.st (Nat.le_refl _)).st (Nat.le_refl _)))

end Go.Proofs.YtcafnpfhjiaolaaDoor

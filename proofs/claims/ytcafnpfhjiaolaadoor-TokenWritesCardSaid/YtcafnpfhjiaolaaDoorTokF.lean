/- Contracts of package token's readOp and read: the token at a place. -/
import Derived.Test.YtcafnpfhjiaolaaDoorTokD
import Derived.Test.YtcafnpfhjiaolaaDoorTokE
namespace Go.Proofs.YtcafnpfhjiaolaaDoor
open Go.RowKit

theorem res32 (tm : Array Value) (R : Nat) (a b : Value) (n : Int) (c : Bool) (w : World) (hp : tm[4]?.getD undef = .pointer (some ⟨R, 0, none⟩)) (h5 : tm[5]?.getD undef = .int .i64 n) (h6 : tm[6]?.getD undef = .bool c) (h : Has w R [a, b]) :
    (results Tryd.f32 tm).run Tryd.prog w = .ok (.tuple #[.agg #[a, b], .int .i64 n, .bool c]) w := by
  obtain ⟨h0, h1⟩ := h.c2
  simp [results, Tryd.results32, go_sem, hp, h5, h6, h0, h1]
theorem res19 (tm : Array Value) (R : Nat) (a b : Value) (n : Int) (c : Bool) (w : World) (hp : tm[4]?.getD undef = .pointer (some ⟨R, 0, none⟩)) (h5 : tm[5]?.getD undef = .int .i64 n) (h6 : tm[6]?.getD undef = .bool c) (h : Has w R [a, b]) :
    (results Tryd.f19 tm).run Tryd.prog w = .ok (.tuple #[.agg #[a, b], .int .i64 n, .bool c]) w := by
  obtain ⟨h0, h1⟩ := h.c2
  simp [results, Tryd.results19, go_sem, hp, h5, h6, h0, h1]

abbrev pairsV : Value := .agg #[.string ⟨#[42, 42]⟩, .string ⟨#[61, 61]⟩, .string ⟨#[47, 61]⟩, .string ⟨#[60, 61]⟩, .string ⟨#[62, 61]⟩, .string ⟨#[61, 62]⟩, .string ⟨#[58, 58]⟩]
theorem tab0 {w : World} (h : TB w) (k : Nat) (v : Value) (hv : pairsA[k]? = some v) : w.cell? ⟨0, k, none⟩ = some v := by
  obtain ⟨⟨t, fr, h1⟩, _, _⟩ := h
  exact cell_of_tab h1 k v hv
/-- The pair at an index of the table. -/
theorem pair_ix (j : Nat) (hj : j < 7) : ∃ tt : ByteArray, (∀ w : World, (Instr.index 65 pairsV (.int .i64 (j : Int))).run Tryd.prog w = .ok (.string tt) w) ∧ pairsL[j]? = some tt.data.toList ∧ tt.size = 2 := by
  match j, hj with
  | 0, _ => exact ⟨⟨#[42, 42]⟩, fun _ => by kernel_rfl, rfl, by decide⟩
  | 1, _ => exact ⟨⟨#[61, 61]⟩, fun _ => by kernel_rfl, rfl, by decide⟩
  | 2, _ => exact ⟨⟨#[47, 61]⟩, fun _ => by kernel_rfl, rfl, by decide⟩
  | 3, _ => exact ⟨⟨#[60, 61]⟩, fun _ => by kernel_rfl, rfl, by decide⟩
  | 4, _ => exact ⟨⟨#[62, 61]⟩, fun _ => by kernel_rfl, rfl, by decide⟩
  | 5, _ => exact ⟨⟨#[61, 62]⟩, fun _ => by kernel_rfl, rfl, by decide⟩
  | 6, _ => exact ⟨⟨#[58, 58]⟩, fun _ => by kernel_rfl, rfl, by decide⟩

theorem pair_some {L : List UInt8} {i j : Nat} {tt : ByteArray} (h1 : ∀ t ∈ pairsL.take j, t.isPrefixOf (L.drop i) = false) (h2 : pairsL[j]? = some tt.data.toList) (h3 : tt.data.toList.isPrefixOf (L.drop i) = true) : pairP L i = some tt.data.toList := find_at h1 h2 h3
theorem pair_none {L : List UInt8} {i : Nat} (h1 : ∀ t ∈ pairsL.take 7, t.isPrefixOf (L.drop i) = false) : pairP L i = none := by
  unfold pairP
  rw [List.find?_eq_none]
  intro t ht
  have := h1 t (by rw [show pairsL.take 7 = pairsL from rfl]; exact ht)
  simp [this]
theorem pair_step {L : List UInt8} {i j : Nat} {tt : ByteArray} (h1 : ∀ t ∈ pairsL.take j, t.isPrefixOf (L.drop i) = false) (h2 : pairsL[j]? = some tt.data.toList) (h3 : tt.data.toList.isPrefixOf (L.drop i) = false) : ∀ t ∈ pairsL.take (j + 1), t.isPrefixOf (L.drop i) = false := by
  intro t ht
  rw [List.take_add_one, h2] at ht
  simp only [Option.toList_some, List.mem_append, List.mem_singleton] at ht
  rcases ht with h | h
  · exact h1 t h
  · subst h; exact h3

theorem TB.set {w : World} {n i : Nat} {v : Value} (h : TB w) (hn : 2 ≤ n) : TB (w.setCell ⟨n, i, none⟩ v) := by
  obtain ⟨⟨t, fr, h0⟩, ⟨t', fr', h1⟩, h2⟩ := h
  exact ⟨⟨t, fr, (Below.heap_setCell w ⟨n, i, none⟩ v 0 (by simp; omega)).trans h0⟩, ⟨t', fr', (Below.heap_setCell w ⟨n, i, none⟩ v 1 (by simp; omega)).trans h1⟩, by simpa [World.setCell] using h2⟩
theorem prefix_eq (s tt : ByteArray) (i : Nat) : Lib.hasPrefix (s.extract i s.size).data.toList tt.data.toList = tt.data.toList.isPrefixOf (s.data.toList.drop i) := by
  rw [Lib.extract_to_end]; rfl
theorem sub_one (s : ByteArray) (i : Nat) (h : i < s.size) : sub s.data.toList i (i + 1) = [(bt s.data.toList i).toUInt8] := by
  rw [bt_get s i h]
  unfold sub
  rw [show i + 1 - i = 1 by omega, List.drop_eq_getElem_cons (by simpa using h)]
  simp
  rfl
theorem bt_u8 (s : ByteArray) (i : Nat) (h : i < s.size) : (bt s.data.toList i).toUInt8 = s[i] := by
  rw [bt_get s i h]; simp
theorem word_len {L : List UInt8} {i : Nat} {t : Tok} (h : wordP L i = some t) : t.2.length ≤ 7 ∧ 4 ≤ t.2.length ∧ i + t.2.length ≤ L.length := by
  have h1 := List.mem_of_find?_eq_some h
  have h2 := List.find?_some h
  have h3 : t.2.length ≤ 7 ∧ 4 ≤ t.2.length := (show ∀ t ∈ wordsL, t.2.length ≤ 7 ∧ 4 ≤ t.2.length by decide) t h1
  refine ⟨h3.1, h3.2, ?_⟩
  unfold isW at h2
  simp at h2
  exact h2.1
/-- The relation at the head of readOp's loop. -/
def PRel (s : ByteArray) (i : Nat) (w : World) (x : Value) (wr : World) : Prop :=
  ∃ j : Nat, j ≤ 7 ∧ x = .int .i64 (j : Int) ∧ (∀ t ∈ pairsL.take j, t.isPrefixOf (s.data.toList.drop i) = false) ∧ Below w.heap.size w wr ∧ Has wr w.heap.size [.string ⟨#[]⟩, .string ⟨#[]⟩]

set_option maxRecDepth 100000 in
set_option maxHeartbeats 2000000 in
theorem readOp_c (s : ByteArray) (i : Nat) (hi : i < s.size) (hs : s.size ≤ 1000000) (ha : Asc s) (w : World) (ht : TB w) :
    Calls Tryd.prog 32 #[.string s, .int .i64 (i : Int)] w fun e w' => e = .returned (tokV (opP s.data.toList i)) ∧ Below w.heap.size w w' := by
  have hR := Has.new w [.string ⟨#[]⟩, .string ⟨#[]⟩] 30
  have hB : Below w.heap.size w (w.alloc (.cells #[.string ⟨#[]⟩, .string ⟨#[]⟩] 30)) := (Below.refl _ _).alloc (Nat.le_refl _) _
  have ht1 := ht.keep ((Below.refl _ _).alloc (Nat.le_refl _) (.cells #[.string ⟨#[]⟩, .string ⟨#[]⟩] 30))
  have Hw := Lib.hid (wordAt_c s i (by omega) hs ha _ ht1)
  have Ht := Lib.hid ht1
  have hbi := bt_get s i hi
  clear ha ht1
  rcases ho : wordP s.data.toList i with _ | t
  · have Ho := Lib.hid ho; clear ho
    go_enter Tryd.func32, Tryd.ntmps32
    go_wp2_with fail
    refine Hw.out.mono ?_
    rw [Ho.out]
    rintro e w1 ⟨rfl, hb⟩
    have ht1 := Ht.out.keep hb
    have hR := hR.keep hb
    have hB := bt_ hB hb
    clear hb
    obtain ⟨hr0, hr1⟩ := hR.c2
    obtain ⟨hq0, hq1⟩ := hR.f2
    have ht2 : TB ((w1.setCell ⟨w.heap.size, 0, none⟩ (.string ⟨#[]⟩)).setCell ⟨w.heap.size, 1, none⟩ (.string ⟨#[]⟩)) := (ht1.set ht.2.2).set ht.2.2
    have k0 := tab0 ht2 0 (.string ⟨#[42, 42]⟩) rfl
    have k1 := tab0 ht2 1 (.string ⟨#[61, 61]⟩) rfl
    have k2 := tab0 ht2 2 (.string ⟨#[47, 61]⟩) rfl
    have k3 := tab0 ht2 3 (.string ⟨#[60, 61]⟩) rfl
    have k4 := tab0 ht2 4 (.string ⟨#[62, 61]⟩) rfl
    have k5 := tab0 ht2 5 (.string ⟨#[61, 62]⟩) rfl
    have k6 := tab0 ht2 6 (.string ⟨#[58, 58]⟩) rfl
    simp only [wordV]
    go_wp2_with fail
    go_loopw [23] (fun x wr => PRel s i w x wr) (fun x wr => 7 - (intOf x).toNat)
    case atStart => exact ⟨0, by omega, rfl, by simp, (hB.st (Nat.le_refl _)).st (Nat.le_refl _), hR.set2 _ _⟩
    case round =>
      clear k0 k1 k2 k3 k4 k5 k6 hR hB hr0 hr1 hq0 hq1 ht2
      obtain ⟨j, hj, rfl, hn, hB, hR⟩ := hrel
      obtain ⟨hr0, hr1⟩ := hR.c2
      obtain ⟨hq0, hq1⟩ := hR.f2
      have hlt := hR.lt
      have Hn := Lib.hid hn; clear hn
      by_cases hj7 : j < 7
      · obtain ⟨tt, hix, hg, hn2⟩ := pair_ix j hj7
        have Hg := Lib.hid hg; clear hg
        have Hbi := Lib.hid hbi; clear hbi
        have hpe := prefix_eq s tt i
        rcases hq : tt.data.toList.isPrefixOf (s.data.toList.drop i) with _ | _
        · have hst := Lib.hid (pair_step Hn.out Hg.out hq)
          have Hpe := Lib.hid (hpe.trans hq)
          clear hpe hq
          go_wp2_with fail
          refine (Tryd.strings_HasPrefix _ _ _).mono ?_
          rintro e w2 ⟨rfl, rfl⟩
          rw [Hpe.out]
          go_wp2
          go_roundw
          case rel => exact ⟨j + 1, by omega, by go_num, hst.out, hB, hR⟩
          case measure => simp [intOf]; omega
        · have hres : opP s.data.toList i = some ((kOp, tt.data.toList), i + 2) := by
            unfold opP; rw [Ho.out, pair_some Hn.out Hg.out hq]; simp [hn2]
          have Hres := Lib.hid hres
          have Hpe := Lib.hid (hpe.trans hq)
          clear hpe hq hres
          go_wp2_with fail
          refine (Tryd.strings_HasPrefix _ _ _).mono ?_
          rintro e w2 ⟨rfl, rfl⟩
          rw [Hpe.out]
          go_wp2
          rw [Hres.out]
          exact bodyPost_ret (v := tokV (some ((kOp, tt.data.toList), i + 2))) (res32 _ _ _ _ _ _ _ rfl rfl rfl (hR.set2 _ _)) rfl ⟨rfl, (hB.st (Nat.le_refl _)).st (Nat.le_refl _)⟩
      · obtain rfl : j = 7 := by omega
        have hpn := pair_none Hn.out
        by_cases hm : (bt s.data.toList i).toUInt8 ∈ singlesL
        · have hres : opP s.data.toList i = some ((kOp, sub s.data.toList i (i + 1)), i + 1) := by
            unfold opP; rw [Ho.out, hpn, sub_one s i hi]; simp [hm]
          have Hres := Lib.hid hres
          have Hm := Lib.hid hm
          have hidx : 0 ≤ Lib.indexByte [43, 45, 42, 47, 60, 62, 61, 40, 41, 91, 93, 44, 58, 37] s[i] := (idx_nn _ _).2 (by rw [← bt_u8 s i hi]; exact hm)
          have Hbi := Lib.hid hbi; clear hbi hpn hm hres
          go_wp2_with fail
          refine (Tryd.strings_IndexByte _ _ _).mono ?_
          rintro e w2 ⟨rfl, rfl⟩
          go_wp2_with fail
          rw [Hres.out]
          exact bodyPost_ret (v := tokV (some ((kOp, sub s.data.toList i (i + 1)), i + 1))) (res32 _ _ _ _ _ _ _ rfl rfl rfl (by rw [← sub_ext]; exact hR.set2 _ _)) rfl ⟨rfl, (hB.st (Nat.le_refl _)).st (Nat.le_refl _)⟩
        · have hres : opP s.data.toList i = none := by
            unfold opP; rw [Ho.out, hpn]; simp [hm]
          have Hres := Lib.hid hres
          have Hm := Lib.hid hm
          have hidx : Lib.indexByte [43, 45, 42, 47, 60, 62, 61, 40, 41, 91, 93, 44, 58, 37] s[i] < 0 := Int.not_le.1 fun hc => hm (by rw [bt_u8 s i hi]; exact (idx_nn _ _).1 hc)
          have Hbi := Lib.hid hbi; clear hbi hpn hm hres
          go_wp2_with fail
          refine (Tryd.strings_IndexByte _ _ _).mono ?_
          rintro e w2 ⟨rfl, rfl⟩
          go_wp2_with fail
          rw [Hres.out]
          exact bodyPost_ret (v := tokV none) (res32 _ _ _ _ _ _ _ rfl rfl rfl (hR.set2 _ _)) rfl ⟨rfl, (hB.st (Nat.le_refl _)).st (Nat.le_refl _)⟩
  · have hres : opP s.data.toList i = some (t, i + t.2.length) := by
      unfold opP; rw [ho]
    have htl := word_len ho
    have Ho := Lib.hid ho; have Hres := Lib.hid hres; clear ho hres hbi
    obtain ⟨t1, t2⟩ := t
    go_enter Tryd.func32, Tryd.ntmps32
    go_wp2_with fail
    refine Hw.out.mono ?_
    rw [Ho.out]
    rintro e w1 ⟨rfl, hb⟩
    have hR := hR.keep hb
    have hB := bt_ hB hb
    clear hb
    obtain ⟨hr0, hr1⟩ := hR.c2
    obtain ⟨hq0, hq1⟩ := hR.f2
    have hR2 := hR.set2 (.string t1) (.string ⟨t2.toArray⟩)
    obtain ⟨hu0, hu1⟩ := hR2.c2
    simp only [wordV]
    go_wp2
    rw [Hres.out]
    exact bodyPost_ret (v := tokV (some ((t1, t2), i + t2.length))) (res32 _ _ _ _ _ _ _ rfl rfl rfl ((hR.set2 _ _).set2 _ _)) rfl ⟨rfl, (((hB.st (Nat.le_refl _)).st (Nat.le_refl _)).st (Nat.le_refl _)).st (Nat.le_refl _)⟩

/-- A contract of a reader, as read uses it. -/
def RC (k : Nat) (s : ByteArray) (i : Nat) (w : World) (o : Option (Tok × Nat)) : Prop :=
  Calls Tryd.prog k #[.string s, .int .i64 (i : Int)] w fun e w' => e = .returned (tokV o) ∧ Below w.heap.size w w'
theorem RC.out {k : Nat} {s : ByteArray} {i : Nat} {w : World} {o : Option (Tok × Nat)} (h : RC k s i w o) : Calls Tryd.prog k #[.string s, .int .i64 (i : Int)] w fun e w' => e = .returned (tokV o) ∧ Below w.heap.size w w' := h

set_option maxRecDepth 100000 in
set_option maxHeartbeats 2000000 in
theorem read_c (s : ByteArray) (i : Nat) (hi : i < s.size) (hs : s.size ≤ 1000000) (ha : Asc s) (w : World) (ht : TB w) :
    Calls Tryd.prog 19 #[.string s, .int .i64 (i : Int)] w fun e w' => e = .returned (tokV (nxtP s.data.toList i)) ∧ Below w.heap.size w w' := by
  have hR := Has.new w [.string ⟨#[]⟩, .string ⟨#[]⟩] 30
  have hB : Below w.heap.size w (w.alloc (.cells #[.string ⟨#[]⟩, .string ⟨#[]⟩] 30)) := (Below.refl _ _).alloc (Nat.le_refl _) _
  have ht1 := ht.keep ((Below.refl _ _).alloc (Nat.le_refl _) (.cells #[.string ⟨#[]⟩, .string ⟨#[]⟩] 30))
  have hn : RC 27 s i (w.alloc (.cells #[.string ⟨#[]⟩, .string ⟨#[]⟩] 30)) (nameP s.data.toList i) := readName_c s i (by omega) hs ha _
  have hm : RC 30 s i (w.alloc (.cells #[.string ⟨#[]⟩, .string ⟨#[]⟩] 30)) (numP s.data.toList i) := readNumber_c s i (by omega) hs ha _ ht1
  have hq : bt s.data.toList i ≠ 0 → RC 31 s i (w.alloc (.cells #[.string ⟨#[]⟩, .string ⟨#[]⟩] 30)) (textP s.data.toList i) := fun h => readText_c s i hi hs h _
  have ho : RC 32 s i (w.alloc (.cells #[.string ⟨#[]⟩, .string ⟨#[]⟩] 30)) (opP s.data.toList i) := readOp_c s i hi hs ha _ ht1
  have hb := (bt_get s i hi).symm
  have hd1 := holdDigit_c s (i + 1) (w.alloc (.cells #[.string ⟨#[]⟩, .string ⟨#[]⟩] 30))
  have hex : nxtP s.data.toList i = if cL (bt s.data.toList i) = true then nameP s.data.toList i
    else if cD (bt s.data.toList i) = true ∨ bt s.data.toList i = 46 ∧ cD (bt s.data.toList (i + 1)) = true then numP s.data.toList i
    else if bt s.data.toList i = 39 ∨ bt s.data.toList i = 34 then textP s.data.toList i
    else opP s.data.toList i := rfl
  generalize nameP s.data.toList i = on at *
  generalize numP s.data.toList i = om at *
  generalize textP s.data.toList i = oq at *
  generalize opP s.data.toList i = oo at *
  generalize bt s.data.toList i = c at *
  generalize cD (bt s.data.toList (i + 1)) = d1 at *
  generalize nxtP s.data.toList i = ox at *
  have Hb := Lib.hid hb; have Hd1 := Lib.hid hd1; have Ho := Lib.hid ho; have Hq := Lib.hid hq; have Hm := Lib.hid hm; have Hn := Lib.hid hn
  clear hb hd1 ho hq hm hn ht ht1 ha
  rcases hcl : cL c with _ | _
  · have Hcl := Lib.hid hcl
    rcases hcd : cD c with _ | _
    · have Hcd := Lib.hid hcd
      by_cases hp : c = 46
      · subst hp
        rcases d1 with _ | _
        · have Hx := Lib.hid (show ox = oo by rw [hex, if_neg (by simp [hcl]), if_neg (by simp [hcd]), if_neg (by simp)])
          clear hex hcl hcd
          rcases oo with _ | t
          · go_enter Tryd.func19, Tryd.ntmps19
            go_wp2_with fail
            refine (isLetter_c _ _).mono ?_
            rw [Hb.out, Hcl.out]
            rintro e w1 ⟨rfl, rfl⟩
            go_wp2_with fail
            refine (isDigit_c _ _).mono ?_
            rw [Hcd.out]
            rintro e w1 ⟨rfl, rfl⟩
            go_wp2_with fail
            refine Hd1.out.mono ?_
            rintro e w1 ⟨rfl, rfl⟩
            go_wp2_with fail
            refine Ho.out.out.mono ?_
            rintro e w2 ⟨rfl, hb⟩
            have hR := hR.keep hb
            have hB := bt_ hB hb
            clear hb
            obtain ⟨hr0, hr1⟩ := hR.c2
            obtain ⟨hq0, hq1⟩ := hR.f2
            simp only [tokV]
            go_wp2
            rw [Hx.out]
            exact bodyPost_ret (v := tokV none) (res19 _ _ _ _ _ _ _ rfl rfl rfl (hR.set2 _ _)) rfl ⟨rfl, (hB.st (Nat.le_refl _)).st (Nat.le_refl _)⟩
          · obtain ⟨⟨t1, t2⟩, n⟩ := t
            go_enter Tryd.func19, Tryd.ntmps19
            go_wp2_with fail
            refine (isLetter_c _ _).mono ?_
            rw [Hb.out, Hcl.out]
            rintro e w1 ⟨rfl, rfl⟩
            go_wp2_with fail
            refine (isDigit_c _ _).mono ?_
            rw [Hcd.out]
            rintro e w1 ⟨rfl, rfl⟩
            go_wp2_with fail
            refine Hd1.out.mono ?_
            rintro e w1 ⟨rfl, rfl⟩
            go_wp2_with fail
            refine Ho.out.out.mono ?_
            rintro e w2 ⟨rfl, hb⟩
            have hR := hR.keep hb
            have hB := bt_ hB hb
            clear hb
            obtain ⟨hr0, hr1⟩ := hR.c2
            obtain ⟨hq0, hq1⟩ := hR.f2
            simp only [tokV]
            go_wp2
            rw [Hx.out]
            exact bodyPost_ret (v := tokV (some ((t1, t2), n))) (res19 _ _ _ _ _ _ _ rfl rfl rfl (hR.set2 _ _)) rfl ⟨rfl, (hB.st (Nat.le_refl _)).st (Nat.le_refl _)⟩
        · have Hx := Lib.hid (show ox = om by rw [hex, if_neg (by simp [hcl]), if_pos (by simp)])
          clear hex hcl hcd
          rcases om with _ | t
          · go_enter Tryd.func19, Tryd.ntmps19
            go_wp2_with fail
            refine (isLetter_c _ _).mono ?_
            rw [Hb.out, Hcl.out]
            rintro e w1 ⟨rfl, rfl⟩
            go_wp2_with fail
            refine (isDigit_c _ _).mono ?_
            rw [Hcd.out]
            rintro e w1 ⟨rfl, rfl⟩
            go_wp2_with fail
            refine Hd1.out.mono ?_
            rintro e w1 ⟨rfl, rfl⟩
            go_wp2_with fail
            refine Hm.out.out.mono ?_
            rintro e w2 ⟨rfl, hb⟩
            have hR := hR.keep hb
            have hB := bt_ hB hb
            clear hb
            obtain ⟨hr0, hr1⟩ := hR.c2
            obtain ⟨hq0, hq1⟩ := hR.f2
            simp only [tokV]
            go_wp2
            rw [Hx.out]
            exact bodyPost_ret (v := tokV none) (res19 _ _ _ _ _ _ _ rfl rfl rfl (hR.set2 _ _)) rfl ⟨rfl, (hB.st (Nat.le_refl _)).st (Nat.le_refl _)⟩
          · obtain ⟨⟨t1, t2⟩, n⟩ := t
            go_enter Tryd.func19, Tryd.ntmps19
            go_wp2_with fail
            refine (isLetter_c _ _).mono ?_
            rw [Hb.out, Hcl.out]
            rintro e w1 ⟨rfl, rfl⟩
            go_wp2_with fail
            refine (isDigit_c _ _).mono ?_
            rw [Hcd.out]
            rintro e w1 ⟨rfl, rfl⟩
            go_wp2_with fail
            refine Hd1.out.mono ?_
            rintro e w1 ⟨rfl, rfl⟩
            go_wp2_with fail
            refine Hm.out.out.mono ?_
            rintro e w2 ⟨rfl, hb⟩
            have hR := hR.keep hb
            have hB := bt_ hB hb
            clear hb
            obtain ⟨hr0, hr1⟩ := hR.c2
            obtain ⟨hq0, hq1⟩ := hR.f2
            simp only [tokV]
            go_wp2
            rw [Hx.out]
            exact bodyPost_ret (v := tokV (some ((t1, t2), n))) (res19 _ _ _ _ _ _ _ rfl rfl rfl (hR.set2 _ _)) rfl ⟨rfl, (hB.st (Nat.le_refl _)).st (Nat.le_refl _)⟩
      · have hp1 : ((c : Int) == 46) = false := by simp; omega
        by_cases hqq : c = 39 ∨ c = 34
        · have Hx := Lib.hid (show ox = oq by rw [hex, if_neg (by simp [hcl]), if_neg (by simp [hcd, hp]), if_pos hqq])
          clear hex hcl hcd
          have Hq2 := Lib.hid (Hq.out (by omega))
          clear Hq
          rcases hqq with rfl | rfl
          · rcases oq with _ | t
            · go_enter Tryd.func19, Tryd.ntmps19
              go_wp2_with fail
              refine (isLetter_c _ _).mono ?_
              rw [Hb.out, Hcl.out]
              rintro e w1 ⟨rfl, rfl⟩
              go_wp2_with fail
              refine (isDigit_c _ _).mono ?_
              rw [Hcd.out]
              rintro e w1 ⟨rfl, rfl⟩
              go_wp2_with fail
              refine Hq2.out.out.mono ?_
              rintro e w2 ⟨rfl, hb⟩
              have hR := hR.keep hb
              have hB := bt_ hB hb
              clear hb
              obtain ⟨hr0, hr1⟩ := hR.c2
              obtain ⟨hq0, hq1⟩ := hR.f2
              simp only [tokV]
              go_wp2
              rw [Hx.out]
              exact bodyPost_ret (v := tokV none) (res19 _ _ _ _ _ _ _ rfl rfl rfl (hR.set2 _ _)) rfl ⟨rfl, (hB.st (Nat.le_refl _)).st (Nat.le_refl _)⟩
            · obtain ⟨⟨t1, t2⟩, n⟩ := t
              go_enter Tryd.func19, Tryd.ntmps19
              go_wp2_with fail
              refine (isLetter_c _ _).mono ?_
              rw [Hb.out, Hcl.out]
              rintro e w1 ⟨rfl, rfl⟩
              go_wp2_with fail
              refine (isDigit_c _ _).mono ?_
              rw [Hcd.out]
              rintro e w1 ⟨rfl, rfl⟩
              go_wp2_with fail
              refine Hq2.out.out.mono ?_
              rintro e w2 ⟨rfl, hb⟩
              have hR := hR.keep hb
              have hB := bt_ hB hb
              clear hb
              obtain ⟨hr0, hr1⟩ := hR.c2
              obtain ⟨hq0, hq1⟩ := hR.f2
              simp only [tokV]
              go_wp2
              rw [Hx.out]
              exact bodyPost_ret (v := tokV (some ((t1, t2), n))) (res19 _ _ _ _ _ _ _ rfl rfl rfl (hR.set2 _ _)) rfl ⟨rfl, (hB.st (Nat.le_refl _)).st (Nat.le_refl _)⟩
          · rcases oq with _ | t
            · go_enter Tryd.func19, Tryd.ntmps19
              go_wp2_with fail
              refine (isLetter_c _ _).mono ?_
              rw [Hb.out, Hcl.out]
              rintro e w1 ⟨rfl, rfl⟩
              go_wp2_with fail
              refine (isDigit_c _ _).mono ?_
              rw [Hcd.out]
              rintro e w1 ⟨rfl, rfl⟩
              go_wp2_with fail
              refine Hq2.out.out.mono ?_
              rintro e w2 ⟨rfl, hb⟩
              have hR := hR.keep hb
              have hB := bt_ hB hb
              clear hb
              obtain ⟨hr0, hr1⟩ := hR.c2
              obtain ⟨hq0, hq1⟩ := hR.f2
              simp only [tokV]
              go_wp2
              rw [Hx.out]
              exact bodyPost_ret (v := tokV none) (res19 _ _ _ _ _ _ _ rfl rfl rfl (hR.set2 _ _)) rfl ⟨rfl, (hB.st (Nat.le_refl _)).st (Nat.le_refl _)⟩
            · obtain ⟨⟨t1, t2⟩, n⟩ := t
              go_enter Tryd.func19, Tryd.ntmps19
              go_wp2_with fail
              refine (isLetter_c _ _).mono ?_
              rw [Hb.out, Hcl.out]
              rintro e w1 ⟨rfl, rfl⟩
              go_wp2_with fail
              refine (isDigit_c _ _).mono ?_
              rw [Hcd.out]
              rintro e w1 ⟨rfl, rfl⟩
              go_wp2_with fail
              refine Hq2.out.out.mono ?_
              rintro e w2 ⟨rfl, hb⟩
              have hR := hR.keep hb
              have hB := bt_ hB hb
              clear hb
              obtain ⟨hr0, hr1⟩ := hR.c2
              obtain ⟨hq0, hq1⟩ := hR.f2
              simp only [tokV]
              go_wp2
              rw [Hx.out]
              exact bodyPost_ret (v := tokV (some ((t1, t2), n))) (res19 _ _ _ _ _ _ _ rfl rfl rfl (hR.set2 _ _)) rfl ⟨rfl, (hB.st (Nat.le_refl _)).st (Nat.le_refl _)⟩
        · have Hx := Lib.hid (show ox = oo by rw [hex, if_neg (by simp [hcl]), if_neg (by simp [hcd, hp]), if_neg hqq])
          clear hex hcl hcd
          have hp2 : ((c : Int) == 39) = false := by simp; omega
          have hp3 : ((c : Int) == 34) = false := by simp; omega
          clear hqq hp
          rcases oo with _ | t
          · go_enter Tryd.func19, Tryd.ntmps19
            go_wp2_with fail
            refine (isLetter_c _ _).mono ?_
            rw [Hb.out, Hcl.out]
            rintro e w1 ⟨rfl, rfl⟩
            go_wp2_with fail
            refine (isDigit_c _ _).mono ?_
            rw [Hcd.out]
            rintro e w1 ⟨rfl, rfl⟩
            go_wp2_with fail
            refine Ho.out.out.mono ?_
            rintro e w2 ⟨rfl, hb⟩
            have hR := hR.keep hb
            have hB := bt_ hB hb
            clear hb
            obtain ⟨hr0, hr1⟩ := hR.c2
            obtain ⟨hq0, hq1⟩ := hR.f2
            simp only [tokV]
            go_wp2
            rw [Hx.out]
            exact bodyPost_ret (v := tokV none) (res19 _ _ _ _ _ _ _ rfl rfl rfl (hR.set2 _ _)) rfl ⟨rfl, (hB.st (Nat.le_refl _)).st (Nat.le_refl _)⟩
          · obtain ⟨⟨t1, t2⟩, n⟩ := t
            go_enter Tryd.func19, Tryd.ntmps19
            go_wp2_with fail
            refine (isLetter_c _ _).mono ?_
            rw [Hb.out, Hcl.out]
            rintro e w1 ⟨rfl, rfl⟩
            go_wp2_with fail
            refine (isDigit_c _ _).mono ?_
            rw [Hcd.out]
            rintro e w1 ⟨rfl, rfl⟩
            go_wp2_with fail
            refine Ho.out.out.mono ?_
            rintro e w2 ⟨rfl, hb⟩
            have hR := hR.keep hb
            have hB := bt_ hB hb
            clear hb
            obtain ⟨hr0, hr1⟩ := hR.c2
            obtain ⟨hq0, hq1⟩ := hR.f2
            simp only [tokV]
            go_wp2
            rw [Hx.out]
            exact bodyPost_ret (v := tokV (some ((t1, t2), n))) (res19 _ _ _ _ _ _ _ rfl rfl rfl (hR.set2 _ _)) rfl ⟨rfl, (hB.st (Nat.le_refl _)).st (Nat.le_refl _)⟩
    · have Hcd := Lib.hid hcd
      have Hx := Lib.hid (show ox = om by rw [hex, if_neg (by simp [hcl]), if_pos (by simp [hcd])])
      clear hex hcl hcd
      rcases om with _ | t
      · go_enter Tryd.func19, Tryd.ntmps19
        go_wp2_with fail
        refine (isLetter_c _ _).mono ?_
        rw [Hb.out, Hcl.out]
        rintro e w1 ⟨rfl, rfl⟩
        go_wp2_with fail
        refine (isDigit_c _ _).mono ?_
        rw [Hcd.out]
        rintro e w1 ⟨rfl, rfl⟩
        go_wp2_with fail
        refine Hm.out.out.mono ?_
        rintro e w2 ⟨rfl, hb⟩
        have hR := hR.keep hb
        have hB := bt_ hB hb
        clear hb
        obtain ⟨hr0, hr1⟩ := hR.c2
        obtain ⟨hq0, hq1⟩ := hR.f2
        simp only [tokV]
        go_wp2
        rw [Hx.out]
        exact bodyPost_ret (v := tokV none) (res19 _ _ _ _ _ _ _ rfl rfl rfl (hR.set2 _ _)) rfl ⟨rfl, (hB.st (Nat.le_refl _)).st (Nat.le_refl _)⟩
      · obtain ⟨⟨t1, t2⟩, n⟩ := t
        go_enter Tryd.func19, Tryd.ntmps19
        go_wp2_with fail
        refine (isLetter_c _ _).mono ?_
        rw [Hb.out, Hcl.out]
        rintro e w1 ⟨rfl, rfl⟩
        go_wp2_with fail
        refine (isDigit_c _ _).mono ?_
        rw [Hcd.out]
        rintro e w1 ⟨rfl, rfl⟩
        go_wp2_with fail
        refine Hm.out.out.mono ?_
        rintro e w2 ⟨rfl, hb⟩
        have hR := hR.keep hb
        have hB := bt_ hB hb
        clear hb
        obtain ⟨hr0, hr1⟩ := hR.c2
        obtain ⟨hq0, hq1⟩ := hR.f2
        simp only [tokV]
        go_wp2
        rw [Hx.out]
        exact bodyPost_ret (v := tokV (some ((t1, t2), n))) (res19 _ _ _ _ _ _ _ rfl rfl rfl (hR.set2 _ _)) rfl ⟨rfl, (hB.st (Nat.le_refl _)).st (Nat.le_refl _)⟩
  · have Hx := Lib.hid (show ox = on by rw [hex, if_pos hcl])
    have Hcl := Lib.hid hcl
    clear hex hcl
    rcases on with _ | t
    · go_enter Tryd.func19, Tryd.ntmps19
      go_wp2_with fail
      refine (isLetter_c _ _).mono ?_
      rw [Hb.out, Hcl.out]
      rintro e w1 ⟨rfl, rfl⟩
      go_wp2_with fail
      refine Hn.out.out.mono ?_
      rintro e w2 ⟨rfl, hb⟩
      have hR := hR.keep hb
      have hB := bt_ hB hb
      clear hb
      obtain ⟨hr0, hr1⟩ := hR.c2
      obtain ⟨hq0, hq1⟩ := hR.f2
      simp only [tokV]
      go_wp2
      rw [Hx.out]
      exact bodyPost_ret (v := tokV none) (res19 _ _ _ _ _ _ _ rfl rfl rfl (hR.set2 _ _)) rfl ⟨rfl, (hB.st (Nat.le_refl _)).st (Nat.le_refl _)⟩
    · obtain ⟨⟨t1, t2⟩, n⟩ := t
      go_enter Tryd.func19, Tryd.ntmps19
      go_wp2_with fail
      refine (isLetter_c _ _).mono ?_
      rw [Hb.out, Hcl.out]
      rintro e w1 ⟨rfl, rfl⟩
      go_wp2_with fail
      refine Hn.out.out.mono ?_
      rintro e w2 ⟨rfl, hb⟩
      have hR := hR.keep hb
      have hB := bt_ hB hb
      clear hb
      obtain ⟨hr0, hr1⟩ := hR.c2
      obtain ⟨hq0, hq1⟩ := hR.f2
      simp only [tokV]
      go_wp2
      rw [Hx.out]
      exact bodyPost_ret (v := tokV (some ((t1, t2), n))) (res19 _ _ _ _ _ _ _ rfl rfl rfl (hR.set2 _ _)) rfl ⟨rfl, (hB.st (Nat.le_refl _)).st (Nat.le_refl _)⟩
end Go.Proofs.YtcafnpfhjiaolaaDoor

/- Contracts of filled, labelOf and oldLabel. -/
import Derived.Test.YtdandmbgdndnjaaGreatDoorSrcS
import Derived.Test.YtdandmbgdndnjaaGreatDoorShelfR
import Derived.Lib.AtoiErrMem
namespace Go.Proofs.YtdandmbgdndnjaaGreatDoor
open Go.RowKit

/-- A line's columns. -/
def fil (L : List UInt8) : List UInt8 := (L ++ List.replicate 72 32).take 72
theorem rep72 : Lib.repeatL [32] 72 = List.replicate 72 32 := by decide
theorem fil_len (L : List UInt8) : (fil L).length = 72 := by unfold fil; simp

set_option maxRecDepth 100000 in
set_option maxHeartbeats 1000000 in
theorem filled_c (s : ByteArray) (hs : s.size ≤ 1000000) (w : World) :
    Calls Tryz.prog 68 #[.string s] w fun e w' => e = .returned (.string ⟨(fil s.data.toList).toArray⟩) ∧ Below w.heap.size w w' := by
  have H := Lib.hid (Tryz.strings_Repeat ⟨#[32]⟩ 72 w (by omega) (by decide))
  obtain ⟨r, hr⟩ : ∃ r : ByteArray, r = ⟨(Lib.repeatL [32] 72).toArray⟩ := ⟨_, rfl⟩
  have hrs : r.size = 72 := by rw [hr, rep72]; rfl
  have hsz : (s ++ r).size = s.size + r.size := by simp
  have h72 : 72 ≤ (s ++ r).size := by omega
  have h72' : (72 : Int) ≤ ((s ++ r).size : Int) := by omega
  have hsm : s.size + r.size ≤ 1000072 := by omega
  have hbig : (s ++ r).size ≤ 1000072 := by omega
  have hd : (s ++ r).data.toList = s.data.toList ++ List.replicate 72 32 := by rw [ByteArray.data_append, Array.toList_append, hr, rep72]
  have Hr := Lib.hid hr
  have Hd := Lib.hid hd
  have Hrs := Lib.hid hrs
  clear hr hd hsz hrs
  go_enter Tryz.func68, Tryz.ntmps68
  go_wp2_with fail
  refine H.out.mono ?_
  rw [show (⟨(Lib.repeatL (ByteArray.data ⟨#[32]⟩).toList 72).toArray⟩ : ByteArray) = r from Hr.out.symm]
  rintro e w1 ⟨rfl, hB⟩
  go_wp2
  go_ret
  refine ⟨?_, hB⟩
  have e : (s ++ r).extract 0 72 = ⟨(fil s.data.toList).toArray⟩ := by
    rw [← Lib.mk_data ((s ++ r).extract 0 72), Lib.extract_data, Hd.out]
    rfl
  rw [e]; rfl

/-- What labelOf answers: the label, if it is one. -/
def lbP (L : List UInt8) : Option Int :=
  if (Lib.trimLeftB L 48).isEmpty || decide (5 < (Lib.trimLeftB L 48).length) || !(Lib.trimS (Lib.trimLeftB L 48) dgL).isEmpty then none else Lib.atoi (Lib.trimLeftB L 48)
def lbV : Option Int → Value
  | none => .tuple #[.int .i64 0, .bool false]
  | some n => .tuple #[.int .i64 n, .bool true]

theorem dropWhile_nil {p : UInt8 → Bool} : ∀ {l : List UInt8}, l.dropWhile p = [] → ∀ x ∈ l, p x = true
  | [], _, x, hx => by simp at hx
  | c :: t, h, x, hx => by
    by_cases hc : p c = true
    · rw [List.dropWhile_cons_of_pos hc] at h
      rcases List.mem_cons.1 hx with rfl | hx
      · exact hc
      · exact dropWhile_nil h x hx
    · rw [List.dropWhile_cons_of_neg hc] at h; cases h
theorem dropWhile_head {p : UInt8 → Bool} : ∀ {l : List UInt8} {c : UInt8} {t : List UInt8}, l.dropWhile p = c :: t → p c = false
  | [], _, _, h => by simp at h
  | b :: l, c, t, h => by
    by_cases hb : p b = true
    · rw [List.dropWhile_cons_of_pos hb] at h; exact dropWhile_head h
    · rw [List.dropWhile_cons_of_neg hb] at h; cases h; simpa using hb
theorem trimS_nil {l cs : List UInt8} (h : Lib.trimS l cs = []) : ∀ x ∈ l, cs.contains x = true := by
  unfold Lib.trimS Lib.trimLeftS Lib.trimRightS at h
  have h1 := dropWhile_nil h
  rcases hm : l.reverse.dropWhile (cs.contains ·) with _ | ⟨c, t⟩
  · intro x hx
    exact dropWhile_nil hm x (by simpa using hx)
  · have h2 := dropWhile_head hm
    rw [hm] at h1
    have := h1 c (by simp)
    rw [this] at h2; cases h2
theorem digit_ok {x : UInt8} (h : dgL.contains x = true) : ∃ d, Lib.digitVal x = some d ∧ d ≤ 9 := by
  have : x ∈ dgL := by simpa using h
  simp only [dgL, List.mem_cons, List.not_mem_nil, or_false] at this
  rcases this with rfl | rfl | rfl | rfl | rfl | rfl | rfl | rfl | rfl | rfl
  all_goals exact ⟨_, rfl, by decide⟩
theorem decFrom_ok : ∀ (l : List UInt8) (acc : Nat), (∀ x ∈ l, dgL.contains x = true) → ∃ n, Lib.decFrom acc l = some n ∧ n + 1 ≤ (acc + 1) * 10 ^ l.length
  | [], acc, _ => ⟨acc, rfl, by simp⟩
  | b :: l, acc, h => by
    obtain ⟨d, hd, hd9⟩ := digit_ok (h b (by simp))
    obtain ⟨n, hn, hle⟩ := decFrom_ok l (acc * 10 + d) (fun x hx => h x (by simp [hx]))
    refine ⟨n, by simp only [Lib.decFrom, hd]; exact hn, Nat.le_trans hle ?_⟩
    rw [List.length_cons, Nat.pow_succ, Nat.mul_comm (10 ^ l.length) 10, ← Nat.mul_assoc]
    exact Nat.mul_le_mul_right _ (by omega)
theorem atoi_ok {l : List UInt8} (h : ∀ x ∈ l, dgL.contains x = true) (h0 : l ≠ []) (h5 : l.length ≤ 5) : ∃ n : Nat, Lib.atoi l = some (n : Int) ∧ n ≤ 99999 := by
  obtain ⟨n, hn, hle⟩ := decFrom_ok l 0 h
  rcases l with _ | ⟨b, l⟩
  · exact absurd rfl h0
  · have hb := h b (by simp)
    have h1 : (b == 45) = false := by
      rw [beq_eq_false_iff_ne]; rintro rfl; exact absurd hb (by decide)
    have h2 : (b == 43) = false := by
      rw [beq_eq_false_iff_ne]; rintro rfl; exact absurd hb (by decide)
    refine ⟨n, ?_, ?_⟩
    · simp only [Lib.atoi, h1, h2, Lib.decNat]
      simp [hn]
    · have : 10 ^ (b :: l).length ≤ 10 ^ 5 := Nat.pow_le_pow_right (by omega) h5
      omega
theorem lbP_some {L : List UInt8} (h0 : (Lib.trimLeftB L 48).isEmpty = false) (h5 : (Lib.trimLeftB L 48).length ≤ 5) (hs : (Lib.trimS (Lib.trimLeftB L 48) dgL).isEmpty = true) :
    ∃ n : Nat, lbP L = some (n : Int) ∧ Lib.atoi (Lib.trimLeftB L 48) = some (n : Int) ∧ n ≤ 99999 := by
  obtain ⟨n, hn, hle⟩ := atoi_ok (trimS_nil (List.isEmpty_iff.1 hs)) (List.isEmpty_eq_false_iff.1 h0) h5
  refine ⟨n, ?_, hn, hle⟩
  unfold lbP
  rw [h0, hs, decide_eq_false (by omega)]
  exact hn
theorem lbP_le {L : List UInt8} {n : Int} (h : lbP L = some n) : 0 ≤ n ∧ n ≤ 99999 := by
  unfold lbP at h
  split at h
  · cases h
  · rename_i hc
    simp only [Bool.or_eq_true, not_or, decide_eq_true_eq, Bool.not_eq_true, Bool.not_eq_false', Nat.not_lt] at hc
    obtain ⟨⟨h0, h5⟩, hs⟩ := hc
    obtain ⟨m, hm, hle⟩ := atoi_ok (trimS_nil (List.isEmpty_iff.1 hs)) (List.isEmpty_eq_false_iff.1 h0) h5
    rw [hm] at h
    cases h
    omega

set_option maxRecDepth 100000 in
set_option maxHeartbeats 1000000 in
theorem labelOf_c (s : ByteArray) (w : World) :
    Calls Tryz.prog 90 #[.string s] w fun e w' => e = .returned (lbV (lbP s.data.toList)) ∧ Below w.heap.size w w' := by
  have H := Lib.hid (Tryz.strings_TrimLeft_one s 48 (by decide) w)
  obtain ⟨d, hd⟩ : ∃ d : ByteArray, d = ⟨(Lib.trimLeftB s.data.toList 48).toArray⟩ := ⟨_, rfl⟩
  have hdl : d.data.toList = Lib.trimLeftB s.data.toList 48 := by rw [hd]
  have hds : d.size = (Lib.trimLeftB s.data.toList 48).length := by rw [hd]; rfl
  have hle : d.size ≤ s.size := by
    rw [hds, ← data_len s]; exact (List.dropWhile_sublist _).length_le
  obtain ⟨t, ht⟩ : ∃ t : ByteArray, t = ⟨(Lib.trimS d.data.toList dgL).toArray⟩ := ⟨_, rfl⟩
  have Hd := Lib.hid hd
  have Hdl := Lib.hid hdl
  have Hds := Lib.hid hds
  have Ht := Lib.hid ht
  clear hd hdl hds ht
  by_cases h1 : d.toList = []
  · have e : lbP s.data.toList = none := by
      unfold lbP
      rw [← Hdl.out, ← Lib.toList_data, h1]; rfl
    rw [e]
    have E := Lib.hid e
    clear e
    go_enter Tryz.func90, Tryz.ntmps90
    go_wp2_with fail
    refine H.out.mono ?_
    rw [← Hd.out]
    rintro e w1 ⟨rfl, rfl⟩
    go_wp2
    go_ret2
    exact ⟨rfl, Below.refl _ _⟩
  · have f1 : d.toList.isEmpty = false := by rw [List.isEmpty_eq_false_iff]; exact h1
    by_cases h2 : 5 < d.size
    · have e : lbP s.data.toList = none := by
        unfold lbP
        rw [← Hds.out, decide_eq_true h2]
        simp
      rw [e]
      have E := Lib.hid e
      clear e
      go_enter Tryz.func90, Tryz.ntmps90
      go_wp2_with fail
      refine H.out.mono ?_
      rw [← Hd.out]
      rintro e w1 ⟨rfl, rfl⟩
      go_wp2
      go_ret2
      exact ⟨rfl, Below.refl _ _⟩
    · have hT := fun wx => Tryz.strings_Trim_set d ⟨dgL.toArray⟩ wx (by omega) (by decide) (by decide)
      have HT := Lib.hid hT
      clear hT
      have h2' : d.size ≤ 5 := by omega
      have f2 : decide (5 < d.size) = false := by simp; omega
      clear h2
      by_cases h3 : t.toList = []
      · have f3 : t.toList.isEmpty = true := by rw [h3]; rfl
        obtain ⟨n, hn, hat, hle⟩ := lbP_some (L := s.data.toList) (by rw [← Hdl.out, ← Lib.toList_data]; exact f1) (by rw [← Hds.out]; exact h2')
          (by have := h3; rw [Lib.toList_data, Ht.out] at this; rw [← Hdl.out]; exact List.isEmpty_iff.2 this)
        rw [hn]
        have HA := Lib.hid (fun wx => Tryz.strconv_Atoi d (n : Int) (by omega) (by rw [Hdl.out]; exact hat) wx)
        have E := Lib.hid hn
        clear hn hat h3 h1
        go_enter Tryz.func90, Tryz.ntmps90
        go_wp2_with fail
        refine H.out.mono ?_
        rw [← Hd.out]
        rintro e w1 ⟨rfl, rfl⟩
        go_wp2_with fail
        refine (HT.out _).mono ?_
        rw [show (⟨(Lib.trimS d.data.toList (ByteArray.data ⟨dgL.toArray⟩).toList).toArray⟩ : ByteArray) = t from Ht.out.symm]
        rintro e w2 ⟨rfl, hB⟩
        go_wp2_with fail
        refine (HA.out _).mono ?_
        rintro e w3 ⟨rfl, tt, rfl⟩
        have hB3 := hB.trans ((Go.Lib.bytesWorld_below w2 5 tt).mono hB.size)
        clear hB
        go_wp2
        go_ret2
        exact ⟨rfl, hB3⟩
      · have f3 : t.toList.isEmpty = false := by rw [List.isEmpty_eq_false_iff]; exact h3
        have e : lbP s.data.toList = none := by
          have := f3
          rw [Lib.toList_data, Ht.out] at this
          unfold lbP
          rw [← Hdl.out, show (Lib.trimS d.data.toList dgL).isEmpty = false from this]
          simp
        rw [e]
        have E := Lib.hid e
        clear e
        go_enter Tryz.func90, Tryz.ntmps90
        go_wp2_with fail
        refine H.out.mono ?_
        rw [← Hd.out]
        rintro e w1 ⟨rfl, rfl⟩
        go_wp2_with fail
        refine (HT.out _).mono ?_
        rw [show (⟨(Lib.trimS d.data.toList (ByteArray.data ⟨dgL.toArray⟩).toList).toArray⟩ : ByteArray) = t from Ht.out.symm]
        rintro e w2 ⟨rfl, hB⟩
        go_wp2
        go_ret2
        exact ⟨rfl, hB⟩

/-- What oldLabel answers, and the least wrong line behind it. -/
def olL (L : List UInt8) : Nat := if L.isEmpty then 0 else match lbP L with | some n => n.toNat | none => 0
def olW (L : List UInt8) (l a : Nat) : Nat := if L.isEmpty then l else match lbP L with | some _ => l | none => wrN l a

set_option maxRecDepth 100000 in
set_option maxHeartbeats 1000000 in
theorem oldLabel_c (rb : Nat) (x y : Value) (l a : Nat) (s : ByteArray) (w : World) (h : Has w rb [x, y, .int .i64 (l : Int)]) (hl : l ≤ 1000000) :
    Calls Tryz.prog 70 #[.pointer (some ⟨rb, 0, none⟩), .string s, .int .i64 (a : Int)] w fun e w' => e = .returned (.int .i64 (olL s.data.toList : Int)) ∧ Has w' rb [x, y, .int .i64 (olW s.data.toList l a : Int)] ∧ KB w w' (fun k => k = rb) := by
  have H := Lib.hid h
  clear h
  by_cases h1 : s.toList = []
  · have h1' : s.data.toList.isEmpty = true := by rw [← Lib.toList_data, h1]; rfl
    have e1 : olL s.data.toList = 0 := by unfold olL; rw [if_pos h1']
    have e2 : olW s.data.toList l a = l := by unfold olW; rw [if_pos h1']
    rw [e1, e2]
    clear e1 e2 h1'
    go_enter Tryz.func70, Tryz.ntmps70
    go_wp2
    go_ret
    exact ⟨rfl, H.out, KB.refl _ _⟩
  · have f1 : s.toList.isEmpty = false := by rw [List.isEmpty_eq_false_iff]; exact h1
    have hne : s.data.toList.isEmpty = false := by rw [← Lib.toList_data]; exact f1
    have HL := Lib.hid (labelOf_c s w)
    rcases hq : lbP s.data.toList with _ | n
    · have e1 : olL s.data.toList = 0 := by unfold olL; rw [hne, hq]; rfl
      have e2 : olW s.data.toList l a = wrN l a := by unfold olW; rw [hne, hq]; rfl
      rw [e1, e2]
      have Hq := Lib.hid hq
      clear e1 e2 hne hq
      go_enter Tryz.func70, Tryz.ntmps70
      go_wp2_with fail
      refine HL.out.mono ?_
      rw [Hq.out]
      rintro e w1 ⟨rfl, hB⟩
      simp only [lbV]
      go_wp2_with fail
      refine (wrong_c rb x y l a w1 (H.out.keep hB) hl).mono ?_
      rintro e w2 ⟨rfl, hh, hk⟩
      have hk2 := (KB.of_below (fun k => k = rb) hB (Nat.le_refl _)).trans hk
      go_wp2
      go_ret
      exact ⟨rfl, hh, hk2⟩
    · obtain ⟨hn0, hn9⟩ := lbP_le hq
      have e1 : olL s.data.toList = n.toNat := by unfold olL; rw [hne, hq]; rfl
      have e2 : olW s.data.toList l a = l := by unfold olW; rw [hne, hq]; rfl
      rw [e1, e2, Int.toNat_of_nonneg hn0]
      have Hq := Lib.hid hq
      clear e1 e2 hne hq
      go_enter Tryz.func70, Tryz.ntmps70
      go_wp2_with fail
      refine HL.out.mono ?_
      rw [Hq.out]
      rintro e w1 ⟨rfl, hB⟩
      simp only [lbV]
      go_wp2
      go_ret
      exact ⟨rfl, H.out.keep hB, KB.of_below _ hB (Nat.le_refl _)⟩
end Go.Proofs.YtdandmbgdndnjaaGreatDoor

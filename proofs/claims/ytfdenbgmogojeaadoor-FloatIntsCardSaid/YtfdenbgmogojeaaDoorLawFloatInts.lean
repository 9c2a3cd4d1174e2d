/-
  PROVED: the law FloatInts (which float an int becomes, and which int a float, and their flags, are those of the document's answer) returns true for every three ints and leaves them as they were. Conditions: the table of class names holds what the program's text lays (tied by the card).
-/
import Derived.Test.YtfdenbgmogojeaaDoorLawB
import Derived.Test.YtfdenbgmogojeaaDoorRefS
import Derived.Test.YtfdenbgmogojeaaDoorFloIn
import Derived.Test.YtfdenbgmogojeaaDoorCards
import Derived.Test.YtfdenbgmogojeaaDoorTie
import Derived.SevenTiedAt
namespace Go.Proofs.YtfdenbgmogojeaaDoor
open Go.RowKit

set_option maxHeartbeats 2000000 in
theorem rFromInt_nok (k mode n : Int) (hk : NoK k) (w : World) :
    Calls Tryd.prog 31 #[.int .i64 k, .int .i64 mode, .int .i64 n] w fun e w' => e = .returned (.tuple #[.int .i64 0, .int .i64 0, .int .i64 2]) ∧ Below w.heap.size w w' := by
  obtain ⟨h2, h4, h8⟩ := hk
  go_enter Tryd.func31, Tryd.ntmps31
  go_wp2_with fail
  refine (rDigits_no k h2 h4 h8 _).mono ?_
  rintro e w1 ⟨rfl, rfl⟩
  go_wp2
  go_ret3
  exact ⟨rfl, Below.refl _ _⟩

set_option maxHeartbeats 2000000 in
theorem rFromInt_nom (k W D E mode n : Int) (hk : KK k W D E) (hm : ¬ Mode mode) (w : World) :
    Calls Tryd.prog 31 #[.int .i64 k, .int .i64 mode, .int .i64 n] w fun e w' => e = .returned (.tuple #[.int .i64 0, .int .i64 0, .int .i64 2]) ∧ Below w.heap.size w w' := by
  have hd := D_ne W D E hk.kl
  have Hk := Lib.hid hk; clear hk
  have Hm := Lib.hid hm; clear hm
  go_enter Tryd.func31, Tryd.ntmps31
  go_wp2_with fail
  refine (rDigits_c k W D E Hk.out _).mono ?_
  rintro e w1 ⟨rfl, rfl⟩
  go_wp2_with fail
  refine (isMode_rno mode Hm.out _).mono ?_
  rintro e w1 ⟨rfl, rfl⟩
  go_wp2
  go_ret3
  exact ⟨rfl, Below.refl _ _⟩

set_option maxHeartbeats 2000000 in
theorem rFromInt_zero (k W D E mode : Int) (hk : KK k W D E) (hm : Mode mode) (w : World) :
    Calls Tryd.prog 31 #[.int .i64 k, .int .i64 mode, .int .i64 0] w fun e w' => e = .returned (.tuple #[.int .i64 (jn W 0 0), .int .i64 0, .int .i64 0]) ∧ Below w.heap.size w w' := by
  have hd := D_ne W D E hk.kl
  have Hk := Lib.hid hk; clear hk
  have Hm := Lib.hid hm; clear hm
  go_enter Tryd.func31, Tryd.ntmps31
  go_wp2_with fail
  refine (rDigits_c k W D E Hk.out _).mono ?_
  rintro e w1 ⟨rfl, rfl⟩
  go_wp2_with fail
  refine (isMode_r mode Hm.out _).mono ?_
  rintro e w1 ⟨rfl, rfl⟩
  go_wp2_with fail
  refine (rZero_c k W D E 0 Hk.out (.inl rfl) _).mono ?_
  rintro e w2 ⟨rfl, hb⟩
  go_wp2
  go_ret3
  exact ⟨rfl, hb⟩

set_option maxHeartbeats 2000000 in
theorem rFromInt_pos (k W D E mode n : Int) (hk : KK k W D E) (hm : Mode mode) (n0 : 0 < n) (n1 : n < 9223372036854775808) (w : World) :
    Calls Tryd.prog 31 #[.int .i64 k, .int .i64 mode, .int .i64 n] w fun e w' => e = .returned (.tuple #[.int .i64 (roundF W D mode 0 n.natAbs 0 false).1, .int .i64 (roundF W D mode 0 n.natAbs 0 false).2, .int .i64 0]) ∧ Below w.heap.size w w' := by
  have hbl : bl n.natAbs ≤ 64 := bl_mono_le _ 64 (by omega)
  have Hr := Lib.hid (fun v w' (hv : RN w' v (bl n.natAbs) n.natAbs) => Rounded_c k W D E mode 0 n.natAbs 0 false v hk hm (.inl rfl) (by omega) (by omega) (by omega) (by omega) (fun h => by cases h) w' hv)
  have Ho := Lib.hid (fun w' => Of_c n n.natAbs (by rw [IntKind.wrap_u64]; omega) (by omega) w')
  have hd := D_ne W D E hk.kl
  have Hk := Lib.hid hk; clear hk
  have Hm := Lib.hid hm; clear hm
  go_enter Tryd.func31, Tryd.ntmps31
  go_wp2_with fail
  refine (rDigits_c k W D E Hk.out _).mono ?_
  rintro e w1 ⟨rfl, rfl⟩
  go_wp2_with fail
  refine (isMode_r mode Hm.out _).mono ?_
  rintro e w1 ⟨rfl, rfl⟩
  go_wp2_with fail
  refine (Ho.out _).mono ?_
  rintro e w1 ⟨v, rfl, hown, hb⟩
  go_wp2_with fail
  refine (Hr.out _ _ (RN.of hown)).mono ?_
  rintro e w2 ⟨rfl, hb2⟩
  go_wp2
  go_ret3
  exact ⟨rfl, bt hb hb2⟩

set_option maxHeartbeats 2000000 in
theorem rFromInt_neg (k W D E mode n : Int) (hk : KK k W D E) (hm : Mode mode) (n0 : n < 0) (n1 : -9223372036854775808 ≤ n) (w : World) :
    Calls Tryd.prog 31 #[.int .i64 k, .int .i64 mode, .int .i64 n] w fun e w' => e = .returned (.tuple #[.int .i64 (roundF W D mode 1 n.natAbs 0 false).1, .int .i64 (roundF W D mode 1 n.natAbs 0 false).2, .int .i64 0]) ∧ Below w.heap.size w w' := by
  obtain ⟨M, hM⟩ : ∃ M, IntKind.i64.wrap (-n) = M := ⟨_, rfl⟩
  have hMv : M = -n ∨ (M = n ∧ n = -9223372036854775808) := by rw [← hM, IntKind.wrap_i64]; omega
  have hbl : bl n.natAbs ≤ 64 := bl_mono_le _ 64 (by omega)
  have Hr := Lib.hid (fun v w' (hv : RN w' v (bl n.natAbs) n.natAbs) => Rounded_c k W D E mode 1 n.natAbs 0 false v hk hm (.inr rfl) (by omega) (by omega) (by omega) (by omega) (fun h => by cases h) w' hv)
  have Ho := Lib.hid (fun w' => Of_c M n.natAbs (by rw [IntKind.wrap_u64]; omega) (by omega) w')
  clear hMv
  have hd := D_ne W D E hk.kl
  have Hk := Lib.hid hk; clear hk
  have Hm := Lib.hid hm; clear hm
  go_enter Tryd.func31, Tryd.ntmps31
  go_wp2_with fail
  refine (rDigits_c k W D E Hk.out _).mono ?_
  rintro e w1 ⟨rfl, rfl⟩
  go_wp2_with fail
  refine (isMode_r mode Hm.out _).mono ?_
  rintro e w1 ⟨rfl, rfl⟩
  go_wp2_with fail
  refine (Ho.out _).mono ?_
  rintro e w1 ⟨v, rfl, hown, hb⟩
  go_wp2_with fail
  refine (Hr.out _ _ (RN.of hown)).mono ?_
  rintro e w2 ⟨rfl, hb2⟩
  go_wp2
  go_ret3
  exact ⟨rfl, bt hb hb2⟩

set_option maxHeartbeats 2000000 in
theorem rToInt_bad (k mode a : Int) (hq : ∀ w, Calls Tryd.prog 51 #[.int .i64 k, .int .i64 mode, .int .i64 a, .int .i64 a] w fun e w' => e = .returned (.bool false) ∧ w = w') (w : World) :
    Calls Tryd.prog 33 #[.int .i64 k, .int .i64 mode, .int .i64 a] w fun e w' => e = .returned (.tuple #[.int .i64 0, .int .i64 0, .int .i64 2]) ∧ Below w.heap.size w w' := by
  have H := Lib.hid hq; clear hq
  go_enter Tryd.func33, Tryd.ntmps33
  go_wp2_with fail
  refine (H.out _).mono ?_
  rintro e w0 ⟨rfl, rfl⟩
  go_wp2
  go_ret3
  exact ⟨rfl, Below.refl _ _⟩

set_option maxHeartbeats 2000000 in
theorem rToInt_none (k W D E mode a : Int) (hk : KK k W D E) (hm : Mode mode) (hv : okB W a = true) (hc : cls D (siz W a) = 4) (w : World) :
    Calls Tryd.prog 33 #[.int .i64 k, .int .i64 mode, .int .i64 a] w fun e w' => e = .returned (.tuple #[.int .i64 0, .int .i64 0, .int .i64 10]) ∧ Below w.heap.size w w' := by
  have H := Lib.hid (fun w' => rasked_c k W D E mode a a hk hm w')
  rw [hv] at H
  have Htk := Lib.hid (fun w' => taken_c k W D E a hk hv w')
  have hwh : whS (cls D (siz W a)) = ⟨#[110, 111, 110, 101]⟩ := by rw [hc]; rfl
  clear hk hm hc
  go_enter Tryd.func33, Tryd.ntmps33
  go_wp2_with fail
  refine (H.out _).mono ?_
  rintro e w0 ⟨rfl, rfl⟩
  go_wp2_with fail
  refine (Htk.out _).mono ?_
  rintro e w1 ⟨v0, rfl, hown, hB⟩
  obtain ⟨ad, ln, cp, hv0⟩ := own_slice hown
  subst hv0
  clear hown
  go_wp2
  go_ret3
  exact ⟨rfl, hB.alloc hB.size _⟩

set_option maxHeartbeats 2000000 in
theorem rToInt_inf (k W D E mode a : Int) (hk : KK k W D E) (hm : Mode mode) (hv : okB W a = true) (hc : cls D (siz W a) = 3) (w : World) :
    Calls Tryd.prog 33 #[.int .i64 k, .int .i64 mode, .int .i64 a] w fun e w' => e = .returned (.tuple #[.int .i64 0, .int .i64 0, .int .i64 10]) ∧ Below w.heap.size w w' := by
  have H := Lib.hid (fun w' => rasked_c k W D E mode a a hk hm w')
  rw [hv] at H
  have Htk := Lib.hid (fun w' => taken_c k W D E a hk hv w')
  have hwh : whS (cls D (siz W a)) = ⟨#[105, 110, 102, 105, 110, 105, 116, 101]⟩ := by rw [hc]; rfl
  clear hk hm hc
  go_enter Tryd.func33, Tryd.ntmps33
  go_wp2_with fail
  refine (H.out _).mono ?_
  rintro e w0 ⟨rfl, rfl⟩
  go_wp2_with fail
  refine (Htk.out _).mono ?_
  rintro e w1 ⟨v0, rfl, hown, hB⟩
  obtain ⟨ad, ln, cp, hv0⟩ := own_slice hown
  subst hv0
  clear hown
  go_wp2
  go_ret3
  exact ⟨rfl, hB.alloc hB.size _⟩

set_option maxHeartbeats 2000000 in
theorem rToInt_zero (k W D E mode a : Int) (hk : KK k W D E) (hm : Mode mode) (hv : okB W a = true) (hc : cls D (siz W a) = 0) (w : World) :
    Calls Tryd.prog 33 #[.int .i64 k, .int .i64 mode, .int .i64 a] w fun e w' => e = .returned (.tuple #[.int .i64 0, .int .i64 0, .int .i64 0]) ∧ Below w.heap.size w w' := by
  have H := Lib.hid (fun w' => rasked_c k W D E mode a a hk hm w')
  rw [hv] at H
  have Htk := Lib.hid (fun w' => taken_c k W D E a hk hv w')
  have hwh : whS (cls D (siz W a)) = ⟨#[122, 101, 114, 111]⟩ := by rw [hc]; rfl
  clear hk hm hc
  go_enter Tryd.func33, Tryd.ntmps33
  go_wp2_with fail
  refine (H.out _).mono ?_
  rintro e w0 ⟨rfl, rfl⟩
  go_wp2_with fail
  refine (Htk.out _).mono ?_
  rintro e w1 ⟨v0, rfl, hown, hB⟩
  obtain ⟨ad, ln, cp, hv0⟩ := own_slice hown
  subst hv0
  clear hown
  go_wp2
  go_ret3
  exact ⟨rfl, hB.alloc hB.size _⟩

/-- The box of what taken gave. -/
def BX (w w' : World) (X : Nat) (s ex : Int) (v : Value) : Prop := Below w.heap.size w w' ∧ Has w' X [.string ⟨#[102, 105, 110, 105, 116, 101]⟩, .int .i64 s, v, .int .i64 ex]
theorem BX.keep {w wp w' : World} {X : Nat} {s ex : Int} {v : Value} (h : BX w wp X s ex v) (hb : Below wp.heap.size wp w') : BX w w' X s ex v := ⟨bt h.1 hb, h.2.keep hb⟩
theorem BX.drew {w wp : World} {X : Nat} {s ex : Int} {v : Value} (h : BX w wp X s ex v) : BX w wp.drew X s ex v := ⟨h.1.drew, h.2.drew⟩
theorem whole_low (mode s : Int) (M : Nat) (ex : Int) (h : ¬ ex < 0) (t : Nat) (ht : max ex 0 = (t : Int)) : wholeF mode s M ex = ((M * 2 ^ t : Nat) : Int) ∧ cutR M false (-ex) = 0 := by
  have e1 : cutR M false (-ex) = 0 := by unfold cutR; rw [if_pos (by omega)]
  refine ⟨?_, e1⟩
  unfold wholeF; rw [e1, steps_0]
  unfold cutK; rw [if_pos (by omega), show (-(-ex)).toNat = t by omega]; simp
theorem whole_high (mode s : Int) (M : Nat) (ex : Int) (j : Nat) (hj : -ex = (j : Int)) (h0 : 0 < j) :
    wholeF mode s M ex = ((M / 2 ^ j : Nat) : Int) + (if stepsF mode s ((M / 2 ^ j : Nat) : Int) (cutR M false (j : Int)) = true then 1 else 0) := by
  unfold wholeF
  have e1 : cutK M (-ex) = ((M / 2 ^ j : Nat) : Int) := by unfold cutK; rw [if_neg (by omega), show (-ex).toNat = j by omega]
  rw [e1, hj]

def SU (w w' : World) (X : Nat) (s ex : Int) (v a b : Value) (LA A LB B : Nat) : Prop := BX w w' X s ex v ∧ RN w' a LA A ∧ RN w' b LB B
theorem su_keep {w wp w' : World} {X : Nat} {s ex : Int} {v a b : Value} {LA A LB B : Nat} (h : SU w wp X s ex v a b LA A LB B ∧ wp.cell? ⟨X, 1, none⟩ = some (.int .i64 s) ∧ wp.cell? ⟨X, 2, none⟩ = some v ∧ wp.cell? ⟨X, 3, none⟩ = some (.int .i64 ex)) (hb : Below wp.heap.size wp w') :
    SU w w' X s ex v a b LA A LB B ∧ w'.cell? ⟨X, 1, none⟩ = some (.int .i64 s) ∧ w'.cell? ⟨X, 2, none⟩ = some v ∧ w'.cell? ⟨X, 3, none⟩ = some (.int .i64 ex) := by
  have h1 := h.1.1.keep hb
  obtain ⟨_, c1, c2, c3⟩ := h1.2.c4
  exact ⟨⟨h1, h.1.2.1.keep hb, h.1.2.2.keep hb⟩, c1, c2, c3⟩
theorem su_new {w wp : World} {X : Nat} {s ex : Int} {v a b : Value} {LA A LB B : Nat} (h : BX w wp X s ex v) (ha : RN wp a LA A) (hb : RN wp b LB B) :
    SU w wp X s ex v a b LA A LB B ∧ wp.cell? ⟨X, 1, none⟩ = some (.int .i64 s) ∧ wp.cell? ⟨X, 2, none⟩ = some v ∧ wp.cell? ⟨X, 3, none⟩ = some (.int .i64 ex) := by
  obtain ⟨_, c1, c2, c3⟩ := h.2.c4
  exact ⟨⟨h, ha, hb⟩, c1, c2, c3⟩
theorem su_drew {w wp : World} {X : Nat} {s ex : Int} {v a b : Value} {LA A LB B : Nat} (h : SU w wp X s ex v a b LA A LB B ∧ wp.cell? ⟨X, 1, none⟩ = some (.int .i64 s) ∧ wp.cell? ⟨X, 2, none⟩ = some v ∧ wp.cell? ⟨X, 3, none⟩ = some (.int .i64 ex)) :
    SU w wp.drew X s ex v a b LA A LB B ∧ wp.drew.cell? ⟨X, 1, none⟩ = some (.int .i64 s) ∧ wp.drew.cell? ⟨X, 2, none⟩ = some v ∧ wp.drew.cell? ⟨X, 3, none⟩ = some (.int .i64 ex) :=
  ⟨⟨h.1.1.drew, h.1.2.1, h.1.2.2⟩, h.2⟩

set_option maxRecDepth 100000 in
set_option maxHeartbeats 8000000 in
theorem rToInt_fin (k W D E mode a s ex : Int) (M : Nat) (x f er : Int) (hk : KK k W D E) (hm : Mode mode) (hv : okB W a = true) (hc : cls D (siz W a) = 1 ∨ cls D (siz W a) = 2) (hs : sgn W a = s) (hM : (mant D (siz W a)).toNat = M) (hex : expo D (siz W a) = ex)
    (hres : (9223372036854775807 + s < wholeF mode s M ex ∧ x = 0 ∧ f = 0 ∧ er = 10) ∨ (wholeF mode s M ex ≤ 9223372036854775807 + s ∧ x = (if s = 1 then -(wholeF mode s M ex) else wholeF mode s M ex) ∧ f = (if cutR M false (-ex) = 0 then 0 else 16) ∧ er = 0)) (w : World) :
    Calls Tryd.prog 33 #[.int .i64 k, .int .i64 mode, .int .i64 a] w fun e w' => e = .returned (.tuple #[.int .i64 x, .int .i64 f, .int .i64 er]) ∧ Below w.heap.size w w' := by
  have H := Lib.hid (fun w' => rasked_c k W D E mode a a hk hm w')
  rw [hv] at H
  have htk : ∀ w', Calls Tryd.prog 52 #[.int .i64 k, .int .i64 a] w' fun e w'' => ∃ p c, e = .returned (.agg #[.string ⟨#[102, 105, 110, 105, 116, 101]⟩, .int .i64 s, .slice p (bl M) c, .int .i64 ex]) ∧ RN w'' (.slice p (bl M) c) (bl M) M ∧ Below w'.heap.size w' w'' := fun w' => by
    refine (taken_c k W D E a hk hv w').mono ?_
    rintro e w'' ⟨v, rfl, hown, hb⟩
    rw [hM] at hown
    have hr : RN w'' v (bl M) M := RN.of hown
    obtain ⟨p, c, rfl⟩ := hr.slice
    refine ⟨p, c, ?_, hr, hb⟩
    have h1 : whS (cls D (siz W a)) = ⟨#[102, 105, 110, 105, 116, 101]⟩ := by rcases hc with q | q <;> (rw [q]; rfl)
    have h2 : rS W D a = s := by unfold rS; rw [if_neg (by omega)]; exact hs
    have h3 : rE D (siz W a) = ex := by unfold rE; rw [if_pos hc]; exact hex
    rw [h1, h2, h3]
  have h := hk.kl
  obtain ⟨z0, z1⟩ := siz_b W D E a h
  obtain ⟨m0, m1, _⟩ := mant_b W D E _ h z0 z1
  obtain ⟨e0, e1, _⟩ := expo_b W D E _ h z0 (by rcases hc with q | q <;> omega)
  have mp := mant_pos W D E a h hc
  have hbd := hid_b W D E h
  have hM0 : 0 < M ∧ M < 18014398509481984 := by omega
  have hex0 : -1100 ≤ ex ∧ ex ≤ 1000 := by omega
  obtain ⟨ex0, ex1⟩ := hex0
  have hs01 : s = 0 ∨ s = 1 := by have := sgn_s W a; unfold Sgn at this; omega
  have hL54 : bl M ≤ 54 := bl_mono_le _ 54 (by omega)
  have hL0 := bl_pos M (by omega)
  obtain ⟨L, hL⟩ : ∃ L, L = bl M := ⟨_, rfl⟩
  have hMlt := bl_lt M
  rw [← hL] at htk hL54 hL0 hMlt
  have HL := Lib.hid hL; clear hL
  have HMlt := Lib.hid hMlt; clear hMlt
  have HM0 := Lib.hid hM0; clear hM0
  have Htk := Lib.hid htk; clear htk
  have Hres := Lib.hid hres; clear hres
  have Hm := Lib.hid hm; clear hm
  have Hs := Lib.hid hs01; clear hs01
  clear hbd mp e0 e1 m0 m1 z0 z1 hc hs hM hex hk
  obtain ⟨t0, ht0⟩ : ∃ t0 : Nat, max ex 0 = (t0 : Int) := ⟨(max ex 0).toNat, by omega⟩
  have ht0b : t0 ≤ 1000 := by omega
  have Ht0 := Lib.hid ht0; clear ht0
  go_enter Tryd.func33, Tryd.ntmps33
  go_wp2_with fail
  refine (H.out _).mono ?_
  rintro e w0 ⟨rfl, rfl⟩
  go_wp2_with fail
  refine (Htk.out _).mono ?_
  rintro e w1 ⟨pm, cm, rfl, hr, hB⟩
  have hX := Has.new w1 [.string ⟨#[102, 105, 110, 105, 116, 101]⟩, .int .i64 s, .slice pm L cm, .int .i64 ex] 53
  have hr := hr.keep ((Below.refl w1.heap.size w1).alloc (Nat.le_refl _) (.cells (List.toArray [.string ⟨#[102, 105, 110, 105, 116, 101]⟩, .int .i64 s, .slice pm L cm, .int .i64 ex]) 53))
  have hB := hB.alloc hB.size (.cells (List.toArray [.string ⟨#[102, 105, 110, 105, 116, 101]⟩, .int .i64 s, .slice pm L cm, .int .i64 ex]) 53)
  have hbx : BX w (w1.alloc (.cells (List.toArray [.string ⟨#[102, 105, 110, 105, 116, 101]⟩, .int .i64 s, .slice pm L cm, .int .i64 ex]) 53)) w1.heap.size s ex (.slice pm L cm) := ⟨hB, hX⟩
  obtain ⟨x0, x1, x2, x3⟩ := hX.c4
  clear hX hB
  go_wp2_with fail
  refine (Up_c _ L M (by omega) (max ex 0) t0 Ht0.out (by omega) (t0 + L) (by rw [if_neg (by omega)]) (by omega) _ hr).mono ?_
  rintro e w2 ⟨p2, cap2, rfl, h2, hb⟩
  have hr := hr.keep hb
  have hbx := hbx.keep hb
  clear x0 x1 x2 x3 hb
  generalize w1.heap.size = X at *
  obtain ⟨x0, x1, x2, x3⟩ := hbx.2.c4
  go_upto_if 41 with fail
  go_cut [10, 11] (fun wh fl wr => ∃ (p : Option Addr) (c WN : Nat), wh = .slice p (bl WN) c ∧ RN wr (.slice p (bl WN) c) (bl WN) WN ∧ bl WN ≤ 2000 ∧ (WN : Int) = wholeF mode s M ex ∧ fl = .int .i64 (if cutR M false (-ex) = 0 then 0 else 16) ∧ BX w wr X s ex (.slice pm L cm))
  case first =>
    by_cases c : ex < 0
    · obtain ⟨j, hj⟩ : ∃ j : Nat, -ex = (j : Int) := ⟨(-ex).toNat, by omega⟩
      have hj0 : 0 < j := by omega
      have hjb : j ≤ 1100 := by omega
      have Hj := Lib.hid hj; clear hj
      have hwh := whole_high mode s M ex j Hj.out hj0
      obtain ⟨K, hK⟩ : ∃ K, K = M / 2 ^ j := ⟨_, rfl⟩
      rw [← hK] at hwh
      have hcr : cutR M false (-ex) = cutR M false (j : Int) := by rw [Hj.out]
      have Hcr := Lib.hid hcr; clear hcr
      have Hwh := Lib.hid hwh; clear hwh
      have hbK : bl K = L - j := by
        rw [hK]
        by_cases q : j < bl M
        · rw [bl_down _ _ q, HL.out]
        · rw [div_far _ _ (by omega), bl_zero, HL.out]; omega
      have hKle : K * 2 ^ j ≤ M := by rw [hK]; exact Nat.div_mul_le_self _ _
      have hRd : M - K * 2 ^ j = M % 2 ^ j := by
        rw [hK]; have := Nat.div_add_mod M (2 ^ j); rw [Nat.mul_comm] at this; omega
      have hKlt := bl_lt K
      have hKM : K ≤ M := by rw [hK]; exact Nat.div_le_self _ _
      have HK := Lib.hid hK; clear hK
      obtain ⟨LK, hLK⟩ : ∃ LK, LK = L - j := ⟨_, rfl⟩
      rw [← hLK] at hbK
      have hLKb : LK ≤ 54 := by omega
      obtain ⟨LU, hLU⟩ : ∃ LU, LU = if LK = 0 then 0 else j + LK := ⟨_, rfl⟩
      have hLUb : LU ≤ 2000 := by rw [hLU]; split <;> omega
      have hK0 : LK = 0 → K = 0 := fun q => by rw [hbK, q] at hKlt; simpa using hKlt
      have hlu : K * 2 ^ j < 2 ^ LU := by rw [hLU]; exact lt_up K LK j (by rw [← hbK]; exact hKlt) hK0
      obtain ⟨R, hR⟩ : ∃ R, R = M % 2 ^ j := ⟨_, rfl⟩
      rw [← hR] at hRd
      have hRj : bl R ≤ j := bl_mono_le _ j (by rw [hR]; exact Nat.mod_lt _ (Nat.two_pow_pos j))
      have hRlt := bl_lt R
      have HbK := Lib.hid hbK; clear hbK
      have HKle := Lib.hid hKle; clear hKle
      have HRd := Lib.hid hRd; clear hRd
      have HKlt := Lib.hid hKlt; clear hKlt
      have HLK := Lib.hid hLK; clear hLK
      have HLU := Lib.hid hLU; clear hLU
      have HK0 := Lib.hid hK0; clear hK0
      have Hlu := Lib.hid hlu; clear hlu
      have HR := Lib.hid hR; clear hR
      have HRlt := Lib.hid hRlt; clear hRlt
      have HKM := Lib.hid hKM; clear hKM
      have v1 : IntKind.i64.wrap (-ex) = -ex := IntWalk.i64_in _ (by omega)
      go_wp2_with fail
      refine (Down_c _ L M (by omega) (-ex) j Hj.out (by omega) _ hr).mono ?_
      rw [← HLK.out, ← HK.out]
      rintro e w3 ⟨p3, cap3, rfl, h3, hb⟩
      have hr := hr.keep hb
      have hbx := hbx.keep hb
      clear x0 x1 x2 x3 hb h2
      have su0 := su_new hbx hr h3
      go_upto_region 14 with fail
      go_cut [12] (fun r wr => ∃ (p : Option Addr) (c : Nat), r = .slice p (bl R) c ∧ RN wr (.slice p (bl R) c) (bl R) R ∧ RN wr (.slice p3 LK cap3) LK K ∧ BX w wr X s ex (.slice pm L cm))
      case first =>
        obtain ⟨su1, x1, x2, x3⟩ := su0
        go_region_held3 (fun w' => SU w w' X s ex (.slice pm L cm) (.slice pm L cm) (.slice p3 LK cap3) L M LK K ∧ w'.cell? ⟨X, 1, none⟩ = some (.int .i64 s) ∧ w'.cell? ⟨X, 2, none⟩ = some (.slice pm L cm) ∧ w'.cell? ⟨X, 3, none⟩ = some (.int .i64 ex))
          (first | exact ⟨su1, x1, x2, x3⟩ | exact su_drew ⟨su1, x1, x2, x3⟩ | exact su_keep (by assumption) hb | assumption)
          (first | (go_at_call 55; refine (Up_c _ LK K (by omega) (-ex) j Hj.out (by omega) LU HLU.out HK0.out _ (by first | exact h3 | assumption)).mono ?_; rintro e' w' ⟨p4, cap4, rfl, h4, hb⟩) | (go_at_call 58; refine (Minus_c _ _ L LU M (K * 2 ^ j) (by omega) (by omega) HMlt.out Hlu.out HKle.out _ (by first | exact hr.keep hb | exact RN.keep (w := World.drew _) hr hb | assumption) (by first | exact h4 | assumption)).mono ?_; rw [HRd.out]; rintro e' w' ⟨p5, cap5, rfl, h5, hb⟩))
        rename_i hH
        obtain ⟨⟨b1, r1, r2⟩, _, _, _⟩ := hH
        go_wp2_with fail
        go_meet
        exact ⟨p5, cap5, rfl, h5, r2, b1⟩
      case rest =>
      obtain ⟨p5, cap5, rfl, h5, h3, hbx⟩ := hcut
      clear su0 hr
      obtain ⟨x0, x1, x2, x3⟩ := hbx.2.c4
      have hcz : cutR M false (j : Int) = 0 ↔ R = 0 := by
        have q := exact_rest M 0 j (j : Int) false (by omega) (fun h => by cases h)
        rw [Nat.pow_zero, Nat.mul_one, ← HR.out] at q
        rw [← q]; simp
      have hRz : (bl R : Int) > 0 ↔ R ≠ 0 := by
        constructor
        · intro q e; rw [e, bl_zero] at q; omega
        · intro q; have := bl_pos R q; omega
      have Hcz := Lib.hid hcz; clear hcz
      by_cases c0 : R = 0
      · have hb0 : bl R = 0 := by rw [c0]; rfl
        have Hc0 := Lib.hid c0; clear c0 hRz
        have Hb0 := Lib.hid hb0; clear hb0
        rw [Hb0.out]
        go_wp2_with fail
        go_meet
        have hz := Hcz.out.2 Hc0.out
        refine ⟨p3, cap3, K, ?_, ?_, ?_, ?_, ?_, hbx⟩
        · rw [HbK.out]
        · rw [HbK.out]; exact h3
        · rw [HbK.out]; omega
        · rw [Hwh.out, hz, steps_0]; simp
        · rw [Hcr.out, if_pos hz]
      · have hgt := hRz.2 c0
        clear hRz
        have Hc0 := Lib.hid c0; clear c0
        obtain ⟨j1, hj1⟩ : ∃ j1, j = j1 + 1 := ⟨j - 1, by omega⟩
        have hj1b : j1 ≤ 1100 := by omega
        have Hj1 := Lib.hid hj1; clear hj1
        have hH : 1 * 2 ^ j1 < 2 ^ j := by rw [Hj1.out, Nat.pow_succ]; have := Nat.two_pow_pos j1; omega
        have HH := Lib.hid hH; clear hH
        have v2 : IntKind.i64.wrap (-ex - 1) = -ex - 1 := IntWalk.i64_in _ (by omega)
        have su0 := su_new hbx h5 h3
        go_upto_region 17 with fail
        go_cut [13] (fun a wr => a = .int .i64 (cmpN R (1 * 2 ^ j1)) ∧ RN wr (.slice p3 LK cap3) LK K ∧ BX w wr X s ex (.slice pm L cm))
        case first =>
          obtain ⟨su1, x1, x2, x3⟩ := su0
          go_region_held3 (fun w' => SU w w' X s ex (.slice pm L cm) (.slice p5 (bl R) cap5) (.slice p3 LK cap3) (bl R) R LK K ∧ w'.cell? ⟨X, 1, none⟩ = some (.int .i64 s) ∧ w'.cell? ⟨X, 2, none⟩ = some (.slice pm L cm) ∧ w'.cell? ⟨X, 3, none⟩ = some (.int .i64 ex))
            (first | exact ⟨su1, x1, x2, x3⟩ | exact su_drew ⟨su1, x1, x2, x3⟩ | exact su_keep (by assumption) hb | assumption)
            (first | (go_at_call 83; refine (Of_c 1 1 (by decide) (by decide) _).mono ?_; rintro e' w' ⟨v6, rfl, hown, hb⟩; have h6 := RN.of hown; rw [bl_one] at h6; obtain ⟨p6, cap6, rfl⟩ := h6.slice; first | have h5 := h5.keep hb | have h5 := RN.keep (w := World.drew _) h5 hb) | (go_at_call 55; refine (Up_c _ 1 1 (by decide) (-ex - 1) j1 (by have := Hj.out; have := Hj1.out; omega) (by omega) j (by rw [if_neg (by decide)]; have := Hj1.out; omega) (by decide) _ (by first | exact h6 | assumption)).mono ?_; rintro e' w' ⟨p7, cap7, rfl, h7, hb⟩; first | have h5 := h5.keep hb | have h5 := RN.keep (w := World.drew _) h5 hb) | (go_at_call 57; refine (Cmp_c _ _ (bl R) j R (1 * 2 ^ j1) (by omega) (by omega) HRlt.out HH.out _ (by first | exact h5 | assumption) (by first | exact h7 | assumption)).mono ?_; rintro e' w' ⟨rfl, rfl⟩))
          all_goals
            rename_i hH
            obtain ⟨⟨b1, r1, r2⟩, _, _, _⟩ := hH
            go_wp2_with fail
            go_meet
            exact ⟨by rw [Nat.one_mul], r2, b1⟩
        case rest =>
        obtain ⟨rfl, h3, hbx⟩ := hcut
        clear su0 h5
        have hgo : goesF mode s (cmpN R (1 * 2 ^ j1)) ((bd K 0 : Int) == 1) = stepsF mode s (K : Int) (cutR M false (j : Int)) := by
          have q := goes_steps M 0 j false mode s K hj0 Hm.out Hs.out (by rw [← HR.out]; intro ⟨u, _⟩; exact Hc0.out u)
          have hf : halfF R (2 ^ j1) false = cmpN R (2 ^ j1) := by unfold halfF; simp
          rw [Nat.pow_zero, Nat.mul_one, Nat.zero_add, ← HR.out, show j - 1 = j1 by have := Hj1.out; omega, hf] at q
          rw [odd_bit, Nat.one_mul]; exact q
        obtain ⟨S, hS⟩ : ∃ S, S = stepsF mode s (K : Int) (cutR M false (j : Int)) := ⟨_, rfl⟩
        rw [← hS] at hgo
        have HS := Lib.hid hS; clear hS
        have Hgo := Lib.hid hgo; clear hgo
        have Hcv := Lib.hid (cmpN_v R (1 * 2 ^ j1))
        generalize cmpN R (1 * 2 ^ j1) = cv at *
        have hdig : ∀ w' : World, RN w' (.slice p3 LK cap3) LK K → Calls Tryd.prog 87 #[.slice p3 LK cap3, .int .i64 0] w' fun e w'' => e = .returned (.int .u8 (bd K 0 : Int)) ∧ w' = w'' :=
          fun w' hv => digit_c (.slice p3 LK cap3) LK K (by omega) (by rw [← HbK.out]; exact HKlt.out) 0 (by omega) w' hv
        have Hdig := Lib.hid hdig; clear hdig
        have hbd := bd_le K 0
        have su0 := su_new hbx h3 h3
        go_upto_region 18 with fail
        go_cut [74] (fun a wr => a = .bool S ∧ RN wr (.slice p3 LK cap3) LK K ∧ BX w wr X s ex (.slice pm L cm))
        case first =>
          obtain ⟨su1, x1, x2, x3⟩ := su0
          go_region_held3 (fun w' => SU w w' X s ex (.slice pm L cm) (.slice p3 LK cap3) (.slice p3 LK cap3) LK K LK K ∧ w'.cell? ⟨X, 1, none⟩ = some (.int .i64 s) ∧ w'.cell? ⟨X, 2, none⟩ = some (.slice pm L cm) ∧ w'.cell? ⟨X, 3, none⟩ = some (.int .i64 ex))
            (first | exact ⟨su1, x1, x2, x3⟩ | exact su_drew ⟨su1, x1, x2, x3⟩ | assumption)
            (first | (go_at_call 87; refine (Hdig.out _ (by first | exact h3 | assumption)).mono ?_; rintro e' w' ⟨rfl, rfl⟩) | (go_at_call 86; refine (goesUp_c mode s cv ((bd K 0 : Int) == 1) Hm.out Hs.out Hcv.out _).mono ?_; rw [Hgo.out]; rintro e' w' ⟨rfl, rfl⟩))
          all_goals
            rename_i hH
            obtain ⟨⟨b1, r1, r2⟩, _, _, _⟩ := hH
            go_wp2_with fail
            go_meet
            exact ⟨rfl, r2, b1⟩
        case rest =>
        obtain ⟨rfl, h3, hbx⟩ := hcut
        clear su0
        have hnz : ¬ cutR M false (j : Int) = 0 := fun q => Hc0.out (Hcz.out.1 q)
        have Hnz := Lib.hid hnz; clear hnz
        have hK54 : K < 18014398509481984 := by have := HKM.out; have := HM0.out; omega
        cases S
        · go_wp2_with fail
          go_meet
          refine ⟨p3, cap3, K, ?_, ?_, ?_, ?_, ?_, hbx⟩
          · rw [HbK.out]
          · rw [HbK.out]; exact h3
          · rw [HbK.out]; omega
          · rw [Hwh.out, ← HS.out]; simp
          · rw [Hcr.out, if_neg Hnz.out]
        · go_wp2_with fail
          refine (Of_c 1 1 (by decide) (by decide) _).mono ?_
          rintro e' w9 ⟨v9, rfl, hown, hb⟩
          have h9 := RN.of hown
          rw [bl_one] at h9
          clear hown
          have h3 := h3.keep hb
          have hbx := hbx.keep hb
          go_wp2_with fail
          refine (Plus_c _ _ LK 1 K 1 (by omega) (by omega) (by rw [← HbK.out]; exact HKlt.out) (by decide) _ h3 h9).mono ?_
          rintro e' w10 ⟨p10, cap10, rfl, h10, hb⟩
          have hbx := hbx.keep hb
          go_wp2_with fail
          go_meet
          refine ⟨p10, cap10, K + 1, rfl, h10, ?_, ?_, ?_, hbx⟩
          · have := bl_mono_le (K + 1) 55 (by omega); omega
          · rw [Hwh.out, ← HS.out]; simp
          · rw [Hcr.out, if_neg Hnz.out]
    · have hwl := Lib.hid (whole_low mode s M ex c t0 Ht0.out)
      go_wp2_with fail
      go_meet
      refine ⟨p2, cap2, M * 2 ^ t0, ?_, ?_, ?_, hwl.out.1.symm, ?_, hbx⟩
      · rw [bl_up _ _ (by have := HM0.out; omega), ← HL.out]
      · rw [bl_up _ _ (by have := HM0.out; omega), ← HL.out]; exact h2
      · rw [bl_up _ _ (by have := HM0.out; omega), ← HL.out]; omega
      · rw [hwl.out.2]; rfl
  case rest =>
  obtain ⟨pw, cw, WN, rfl, hw, hWb, hWV, rfl, hbx⟩ := hcut
  have hres := Hres.out
  rw [← hWV] at hres
  clear Hres h2 hr
  have HWV := Lib.hid hWV; clear hWV
  generalize (if cutR M false (-ex) = 0 then 0 else 16 : Int) = F at *
  obtain ⟨LW, hLW⟩ : ∃ LW, LW = bl WN := ⟨_, rfl⟩
  have hWlt := bl_lt WN
  rw [← hLW] at hw hWb hWlt ⊢
  have HLW := Lib.hid hLW; clear hLW
  have HWlt := Lib.hid hWlt; clear hWlt
  have Hres := Lib.hid hres; clear hres
  obtain ⟨x0, x1, x2, x3⟩ := hbx.2.c4
  go_wp2_with fail
  refine (Of_c 1 1 (by decide) (by decide) _).mono ?_
  rintro e' w9 ⟨v9, rfl, hown, hb⟩
  have h9 := RN.of hown
  rw [bl_one] at h9
  clear hown x0 x1 x2 x3
  obtain ⟨p9, cap9, rfl⟩ := h9.slice
  have hw := hw.keep hb
  have hbx := hbx.keep hb
  go_wp2_with fail
  refine (Up_c _ 1 1 (by decide) 63 63 rfl (by decide) 64 rfl (by decide) _ h9).mono ?_
  rintro e' w10 ⟨p10, cap10, rfl, h10, hb⟩
  have hw := hw.keep hb
  have hbx := hbx.keep hb
  obtain ⟨x0, x1, x2, x3⟩ := hbx.2.c4
  clear h9 hb
  go_wp2_with fail
  refine (Cmp_c _ _ LW 64 WN (1 * 2 ^ 63) (by omega) (by decide) HWlt.out (by decide) _ hw h10).mono ?_
  rintro e' w11 ⟨rfl, rfl⟩
  have hcmp : cmpN WN (1 * 2 ^ 63) = if WN < 9223372036854775808 then -1 else if WN = 9223372036854775808 then 0 else 1 := rfl
  obtain ⟨cv, hcv⟩ : ∃ cv, cv = cmpN WN (1 * 2 ^ 63) := ⟨_, rfl⟩
  rw [← hcv]
  rw [← hcv] at hcmp
  have Hcmp := Lib.hid hcmp; clear hcmp
  have hcvv : cv = -1 ∨ cv = 0 ∨ cv = 1 := by rw [hcv]; exact cmpN_v _ _
  clear hcv
  rcases Hres.out with ⟨hgt, rfl, rfl, rfl⟩ | ⟨hle, rfl, rfl, rfl⟩
  · have hc3 : cv = 1 ∨ (cv = 0 ∧ s = 0) := by
      have q := Hcmp.out
      rcases Hs.out with r | r
      · rcases hcvv with p | p | p
        · exfalso; rw [if_neg (by omega)] at q; split at q <;> omega
        · exact .inr ⟨p, r⟩
        · exact .inl p
      · rw [if_neg (by omega), if_neg (by omega)] at q; exact .inl q
    clear hcvv Hcmp
    rcases hc3 with rfl | ⟨rfl, rfl⟩
    · have Hgt := Lib.hid hgt; clear hgt
      go_wp2_with fail
      go_ret3
      exact ⟨rfl, hbx.1⟩
    · have Hgt := Lib.hid hgt; clear hgt
      go_wp2_with fail
      go_ret3
      exact ⟨rfl, hbx.1⟩
  · have hc3 : cv = -1 ∨ (cv = 0 ∧ s = 1) := by
      have q := Hcmp.out
      by_cases r : WN < 9223372036854775808
      · rw [if_pos r] at q; exact .inl q
      · have : s = 1 := by rcases Hs.out with r' | r' <;> omega
        rw [if_neg r, if_pos (by omega)] at q; exact .inr ⟨q, this⟩
    have hL64 : LW ≤ 64 := by rw [HLW.out]; exact bl_mono_le _ 64 (by rcases Hs.out with r | r <;> omega)
    obtain ⟨A, hA⟩ : ∃ A, wrap64 (WN : Int) = A := ⟨_, rfl⟩
    have hneg : s = 1 → IntKind.i64.wrap (-A) = -(WN : Int) := fun r => by
      rw [← hA, IntKind.wrap_i64]; unfold wrap64; omega
    have hpos : s = 0 → A = (WN : Int) := fun r => by rw [← hA]; unfold wrap64; omega
    have Hneg := Lib.hid hneg; clear hneg
    have Hpos := Lib.hid hpos; clear hpos
    have HA := Lib.hid hA; clear hA
    have Hle := Lib.hid hle; clear hle
    clear hcvv Hcmp
    rcases hc3 with rfl | ⟨rfl, rfl⟩
    · rcases Hs.out with rfl | rfl
      · go_wp2_with fail
        refine (Int_c _ LW WN hL64 HWlt.out _ hw).mono ?_
        rw [HA.out, Hpos.out (by trivial)]
        rintro e' w12 ⟨rfl, rfl⟩
        go_wp2_with fail
        go_ret3
        exact ⟨by simp, hbx.1⟩
      · have hn := Hneg.out rfl
        go_wp2_with fail
        refine (Int_c _ LW WN hL64 HWlt.out _ hw).mono ?_
        rw [HA.out]
        rintro e' w12 ⟨rfl, rfl⟩
        go_wp2_with fail
        go_ret3
        exact ⟨by simp, hbx.1⟩
    · have hn := Hneg.out rfl
      go_wp2_with fail
      refine (Int_c _ LW WN hL64 HWlt.out _ hw).mono ?_
      rw [HA.out]
      rintro e' w12 ⟨rfl, rfl⟩
      go_wp2_with fail
      go_ret3
      exact ⟨by simp, hbx.1⟩
end Go.Proofs.YtfdenbgmogojeaaDoor
namespace Go.Proofs.YtfdenbgmogojeaaDoor
open Go Go.ChangeShapes Go.WideShapes Go.ChangeAt Go.WideMaps Go.WideElems Go.RowKit

theorem kk_or6 (k : Int) : NoK k ∨ (∃ W D E, KK k W D E) := by
  by_cases c2 : k = 2
  · exact .inr ⟨16, 11, 5, .inl ⟨c2, rfl, rfl, rfl⟩⟩
  by_cases c4 : k = 4
  · exact .inr ⟨32, 24, 8, .inr (.inl ⟨c4, rfl, rfl, rfl⟩)⟩
  by_cases c8 : k = 8
  · exact .inr ⟨64, 53, 11, .inr (.inr ⟨c8, rfl, rfl, rfl⟩)⟩
  · exact .inl ⟨by simp [c2], by simp [c4], by simp [c8]⟩

theorem whole_u (mode s m e : Int) (m0 : 0 ≤ m) (m1 : m < 18014398509481984) (h : (bl m.toNat : Int) + e ≤ 64) : U64 (wholeF mode s m.toNat e) := by
  unfold wholeF
  by_cases q : 0 < -e
  · have hk : cutK m.toNat (-e) = ((m.toNat / 2 ^ (-e).toNat : Nat) : Int) := by unfold cutK; rw [if_neg (by omega)]
    have hle := Nat.div_le_self m.toNat (2 ^ (-e).toNat)
    rw [hk]; revert hle; generalize m.toNat / 2 ^ (-e).toNat = y; intro hle; unfold U64; split <;> omega
  · have hr : cutR m.toNat false (-e) = 0 := by unfold cutR; rw [if_pos (by omega)]
    have hk : cutK m.toNat (-e) = ((m.toNat * 2 ^ (-(-e)).toNat : Nat) : Int) := by unfold cutK; rw [if_pos (by omega)]
    have h1 : m.toNat * 2 ^ (-(-e)).toNat < 2 ^ bl m.toNat * 2 ^ (-(-e)).toNat := Nat.mul_lt_mul_of_pos_right (bl_lt _) (Nat.two_pow_pos _)
    rw [← Nat.pow_add] at h1
    have h2 : m.toNat * 2 ^ (-(-e)).toNat < 2 ^ 64 := Nat.lt_of_lt_of_le h1 (Nat.pow_le_pow_right (by decide) (by omega))
    rw [hr, steps_0, hk]; revert h2; generalize m.toNat * 2 ^ (-(-e)).toNat = y; intro h2; unfold U64; simp; omega

/-- Both sides agree on what they return. -/
def Same (p q : Nat) (k mode n : Int) : Prop := ∃ a b c, (∀ w, Calls Tryd.prog p #[.int .i64 k, .int .i64 mode, .int .i64 n] w fun e' w' => e' = .returned (.tuple #[.int .i64 a, .int .i64 b, .int .i64 c]) ∧ Below w.heap.size w w') ∧
  (∀ w, Calls Tryd.prog q #[.int .i64 k, .int .i64 mode, .int .i64 n] w fun e' w' => e' = .returned (.tuple #[.int .i64 a, .int .i64 b, .int .i64 c]) ∧ Below w.heap.size w w')

set_option maxHeartbeats 1000000 in
theorem ints_law (k mode n : Int) (h1 : Same 30 31 k mode n) (h2 : Same 32 33 k mode n) (w : World) (hcn : CN w) :
    Calls Tryd.prog 7 #[.int .i64 k, .int .i64 mode, .int .i64 n] w fun e w' => e = .returned (.bool true) ∧ Below w.heap.size w w' := by
  obtain ⟨a, b, c, ha, hb⟩ := h1
  obtain ⟨d, p, g, hd, hp⟩ := h2
  have Ha := Lib.hid ha; clear ha
  have Hb := Lib.hid hb; clear hb
  have Hd := Lib.hid hd; clear hd
  have Hp := Lib.hid hp; clear hp
  have Hn := Lib.hid hcn; clear hcn
  have t1 : (a == a) = true := by simp
  have t2 : (b == b) = true := by simp
  have t3 : (c == c) = true := by simp
  have t4 : (d == d) = true := by simp
  have t5 : (p == p) = true := by simp
  have t6 : (g == g) = true := by simp
  go_enter Tryd.func7, Tryd.ntmps7
  go_wp2_with fail
  refine (Ha.out _).mono ?_
  rintro e' w1 ⟨rfl, hB⟩
  go_wp2_with fail
  refine (Hb.out _).mono ?_
  rintro e' w2 ⟨rfl, hb⟩
  have hB := bt hB hb
  go_wp2_with fail
  refine (Hd.out _).mono ?_
  rintro e' w3 ⟨rfl, hb⟩
  have hB := bt hB hb
  go_wp2_with fail
  refine (Hp.out _).mono ?_
  rintro e' w4 ⟨rfl, hb⟩
  have hB := bt hB hb
  go_wp2_with fail
  refine (Awake_c _ (Hn.out.keep hB)).mono ?_
  rintro e' w5 ⟨rfl, hb⟩
  have hB := bt hB hb
  go_wp2
  go_ret
  exact ⟨rfl, hB⟩

theorem fromInt_same (k mode n : Int) (hi : I64 n) : Same 30 31 k mode n := by
  rcases kk_or6 k with hk | ⟨W, D, E, hk⟩
  · exact ⟨_, _, _, fun w => FromInt_nok k mode n hk w, fun w => rFromInt_nok k mode n hk w⟩
  · by_cases hm : Mode mode
    · by_cases c0 : n = 0
      · subst c0
        exact ⟨_, _, _, fun w => FromInt_zero k W D E mode hk hm w, fun w => rFromInt_zero k W D E mode hk hm w⟩
      · by_cases c1 : 0 < n
        · exact ⟨_, _, _, fun w => FromInt_pos k W D E mode n hk hm c1 hi.2 w, fun w => rFromInt_pos k W D E mode n hk hm c1 hi.2 w⟩
        · exact ⟨_, _, _, fun w => FromInt_neg k W D E mode n hk hm (by omega) hi.1 w, fun w => rFromInt_neg k W D E mode n hk hm (by omega) hi.1 w⟩
    · exact ⟨_, _, _, fun w => FromInt_nom k W D E mode n hk hm w, fun w => rFromInt_nom k W D E mode n hk hm w⟩

theorem toInt_same (k mode a : Int) : Same 32 33 k mode a := by
  by_cases hm : Mode mode
  · rcases kk_or6 k with hk | ⟨W, D, E, hk⟩
    · exact ⟨_, _, _, fun w => ToInt_nok k mode a hk w, fun w => rToInt_bad k mode a (fun w' => rasked_nok k mode a a hm hk w') w⟩
    · cases hv : okB W a
      · exact ⟨_, _, _, fun w => ToInt_out k W D E mode a hk hm hv w, fun w => rToInt_bad k mode a (fun w' => by have h := rasked_c k W D E mode a a hk hm w'; rw [hv] at h; exact h) w⟩
      · have h := hk.kl
        have hcn := cls_nn D (siz W a)
        obtain ⟨z0, z1⟩ := siz_b W D E a h
        obtain ⟨m0, m1, _⟩ := mant_b W D E _ h z0 z1
        have hbd := hid_b W D E h
        have hs := sgn_s W a
        have hc5 : cls D (siz W a) = 4 ∨ cls D (siz W a) = 3 ∨ cls D (siz W a) = 0 ∨ (cls D (siz W a) = 1 ∨ cls D (siz W a) = 2) := by omega
        rcases hc5 with c | c | c | c
        · exact ⟨_, _, _, fun w => ToInt_far k W D E mode a hk hm hv (.inr c) w, fun w => rToInt_none k W D E mode a hk hm hv c w⟩
        · exact ⟨_, _, _, fun w => ToInt_far k W D E mode a hk hm hv (.inl c) w, fun w => rToInt_inf k W D E mode a hk hm hv c w⟩
        · have hz : mant D (siz W a) = 0 := by
            have : siz W a = 0 := by
              unfold cls at c
              repeat' split at c
              all_goals first | assumption | (exfalso; omega) | cases c
            unfold mant; rw [if_pos (by omega), this]
          obtain ⟨e0, e1, el⟩ := expo_b W D E _ h z0 (by omega)
          have hex := el (by omega)
          have hwf : wholeF mode (sgn W a) 0 (low D) = 0 ∧ cutR 0 false (-(low D)) = 0 := by
            have e1 : cutR 0 false (-(low D)) = 0 := by unfold cutR lostB; rw [if_neg (by omega)]; simp
            refine ⟨?_, e1⟩
            unfold wholeF; rw [e1, steps_0]; unfold cutK; rw [if_neg (by omega)]; simp
          have hw : ∀ w, Calls Tryd.prog 84 #[num (cls D (siz W a)) (sgn W a) (mant D (siz W a)) (expo D (siz W a)), .int .i64 mode] w fun e w' => e = .returned (.tuple #[.int .u64 0, .int .i64 0, .bool true]) ∧ Below w.heap.size w w' := fun w => by
            have q := whole_c (cls D (siz W a)) (sgn W a) (mant D (siz W a)) (expo D (siz W a)) mode hm (by omega) (by omega) (by omega) (by omega) (by rw [hz]; have : bl (0 : Int).toNat = 0 := rfl; omega) (by omega) w
            rw [hz, hex, Int.toNat_zero, hwf.1, hwf.2, ← hex] at q
            rw [hz]; exact q
          have q := fun w => ToInt_ok k W D E mode a (sgn W a) 0 0 true hk hm hv (by omega) rfl ⟨by omega, by omega⟩ hw rfl (by unfold Sgn at hs; omega) w
          refine ⟨0, 0, 0, fun w => ?_, fun w => rToInt_zero k W D E mode a hk hm hv c w⟩
          have q' := q w
          simp only [Int.neg_zero, ite_self, if_true] at q'
          exact q'
        · obtain ⟨e0, e1, _⟩ := expo_b W D E _ h z0 (by omega)
          obtain ⟨s, hsv⟩ : ∃ s, sgn W a = s := ⟨_, rfl⟩
          have hs01 : s = 0 ∨ s = 1 := by unfold Sgn at hs; omega
          have mp := mant_pos W D E a h c
          by_cases far : 64 < (bl (mant D (siz W a)).toNat : Int) + expo D (siz W a)
          · have hbl := bl_le (mant D (siz W a)).toNat (by omega)
            have hb54 := bl_mono_le (mant D (siz W a)).toNat 54 (by omega)
            have hx : 0 < expo D (siz W a) := by omega
            have hbig : 9223372036854775807 + s < wholeF mode s (mant D (siz W a)).toNat (expo D (siz W a)) := by
              rw [(whole_low mode s _ _ (by omega) (expo D (siz W a)).toNat (by omega)).1]
              have h64 : 2 ^ 64 ≤ (mant D (siz W a)).toNat * 2 ^ (expo D (siz W a)).toNat := by
                calc 2 ^ 64 ≤ 2 ^ (bl (mant D (siz W a)).toNat - 1 + (expo D (siz W a)).toNat) := Nat.pow_le_pow_right (by decide) (by omega)
                  _ = 2 ^ (bl (mant D (siz W a)).toNat - 1) * 2 ^ (expo D (siz W a)).toNat := Nat.pow_add _ _ _
                  _ ≤ (mant D (siz W a)).toNat * 2 ^ (expo D (siz W a)).toNat := Nat.mul_le_mul_right _ hbl
              omega
            have hw : ∀ w, Calls Tryd.prog 84 #[num (cls D (siz W a)) s (mant D (siz W a)) (expo D (siz W a)), .int .i64 mode] w fun e w' => e = .returned (.tuple #[.int .u64 0, .int .i64 0, .bool false]) ∧ Below w.heap.size w w' := fun w =>
              whole_far _ _ _ _ mode (by omega) (by omega) (by omega) (by omega) far w
            exact ⟨_, _, _, fun w => ToInt_err k W D E mode a s 0 0 false hk hm hv (by omega) hsv ⟨by omega, by omega⟩ hw (.inl rfl) w, fun w => rToInt_fin k W D E mode a s _ _ _ _ _ hk hm hv c hsv rfl rfl (.inl ⟨hbig, rfl, rfl, rfl⟩) w⟩
          · have h63 : expo D (siz W a) ≤ 63 := by have := bl_pos (mant D (siz W a)).toNat (by omega); omega
            have hw : ∀ w, Calls Tryd.prog 84 #[num (cls D (siz W a)) s (mant D (siz W a)) (expo D (siz W a)), .int .i64 mode] w fun e w' => e = .returned (.tuple #[.int .u64 (wholeF mode s (mant D (siz W a)).toNat (expo D (siz W a))), .int .i64 (cutR (mant D (siz W a)).toNat false (-(expo D (siz W a)))), .bool true]) ∧ Below w.heap.size w w' := fun w =>
              whole_c _ _ _ _ mode hm (by omega) (by omega) (by omega) (by omega) (by omega) h63 w
            have hU := whole_u mode s (mant D (siz W a)) (expo D (siz W a)) (by omega) (by omega) (by omega)
            by_cases big : 9223372036854775807 + s < wholeF mode s (mant D (siz W a)).toNat (expo D (siz W a))
            · exact ⟨_, _, _, fun w => ToInt_err k W D E mode a s _ _ true hk hm hv (by omega) hsv hU hw (.inr ⟨rfl, big⟩) w, fun w => rToInt_fin k W D E mode a s _ _ _ _ _ hk hm hv c hsv rfl rfl (.inl ⟨big, rfl, rfl, rfl⟩) w⟩
            · exact ⟨_, _, _, fun w => ToInt_ok k W D E mode a s _ _ true hk hm hv (by omega) hsv hU hw rfl (by omega) w, fun w => rToInt_fin k W D E mode a s _ _ _ _ _ hk hm hv c hsv rfl rfl (.inr ⟨by omega, rfl, rfl, rfl⟩) w⟩
  · have hb : ∀ w, Calls Tryd.prog 51 #[.int .i64 k, .int .i64 mode, .int .i64 a, .int .i64 a] w fun e w' => e = .returned (.bool false) ∧ w = w' := fun w => rasked_nom k mode a a hm w
    rcases kk_or6 k with hk | ⟨W, D, E, hk⟩
    · exact ⟨_, _, _, fun w => ToInt_nok k mode a hk w, fun w => rToInt_bad k mode a hb w⟩
    · exact ⟨_, _, _, fun w => ToInt_nom k W D E mode a hk hm w, fun w => rToInt_bad k mode a hb w⟩

theorem floatInts_walk (k mode n : Int) (_ : I64 k) (_ : I64 mode) (hi : I64 n) (w : World) (hcn : CN w) :
    Calls Tryd.prog 7 #[.int .i64 k, .int .i64 mode, .int .i64 n] w fun e w' => e = .returned (.bool true) ∧ Below w.heap.size w w' :=
  ints_law k mode n (fromInt_same k mode n hi) (toInt_same k mode n) w hcn

set_option maxRecDepth 100000 in
theorem floatInts_lifted (os : Os) (started : os.Started) (H : Type) (enc : TypeId × Value → H) :
    ReturnsInHanded {} Tryd.checked os 7 .any (fun w args => (Rows.floatIntsSpec.pre enc Tryd.prog Tryd.f7 [] false w args ∧ laidMetH Tryd.prog laidL w) ∧ sizedMet enc Tryd.prog Tryd.f7 (OpenSpec.ofChange Rows.floatIntsSpec) false w args)
      (Rows.floatIntsSpec.post enc Tryd.prog Tryd.f7 false true false false) := by
  refine returnsInHanded_of_change_and (C := Tryd.checked) (X := fun w _ => laidMetH Tryd.prog laidL w) (fun _ _ _ hh h => h.of_heap hh) own started (by kernel_rfl) Tryd.func7
    (ChangeSpec.witness_shaped (enc := enc) (C := Tryd.checked) (os := os) (X := fun w _ => laidMetH Tryd.prog laidL w) false (World.doorLaid Tryd.prog 400 os) #[.int .i64 0, .int .i64 0, .int .i64 0] 8 rfl (World.shaped_of_RefB (by kernel_rfl) (by kernel_rfl)) (by kernel_rfl) (by kernel_rfl) (by kernel_rfl) (door_met os _)) ?_
  intro W base args ds gs before hval0 hW _ _ hL _
  have hval : ∀ (j : Nat) t v, Tryd.f7.params[j]? = some t → args[j]? = some v → Value.okWide Tryd.prog W .any base t v := hval0
  have hW' := hW
  obtain ⟨p, q, hA0, hV, rfl, hfz, hnd⟩ := hW
  have hA : DataW.TrodAll enc Tryd.prog W 0 (fun _ => true) true Tryd.f7.params.toList args.toList ds p := hA0
  rw [Tryd.params7] at hA hval
  obtain ⟨v0, vs0, d0, ds0, p0, q0, hargs, rfl, rfl, h0, r0⟩ := trodAll_cons hA
  obtain ⟨v1, vs1, d1, ds1, p1, q1, rfl, rfl, rfl, h1, r1⟩ := trodAll_cons r0
  obtain ⟨v2, vs2, d2, ds2, p2, q2, rfl, rfl, rfl, h2, r2⟩ := trodAll_cons r1
  obtain ⟨rfl, rfl, rfl⟩ := trodAll_nil r2
  obtain rfl : args = #[v0, v1, v2] := by cases args; simp_all
  obtain ⟨rfl, rfl⟩ := trodVars_none hV
  obtain ⟨a0, rfl, rfl, rfl, w0⟩ := open_int Tryd.underlying3 (hval 0 3 v0 rfl rfl) h0
  obtain ⟨a1, rfl, rfl, rfl, w1⟩ := open_int Tryd.underlying3 (hval 1 3 v1 rfl rfl) h1
  obtain ⟨a2, rfl, rfl, rfl, w2⟩ := open_int Tryd.underlying3 (hval 2 3 v2 rfl rfl) h2
  have hcn := of_laid hL
  clear hA0 hval0
  simp only [List.append_nil] at hW'
  refine (floatInts_walk a0 a1 a2 (by have := bounds_i64 w0; unfold I64; omega) (by have := bounds_i64 w1; unfold I64; omega) (by have := bounds_i64 w2; unfold I64; omega) W hcn).mono fun e W' ⟨he, hb⟩ => ?_
  subst he
  exact ⟨_, rfl, post_plain hW' (fun _ _ _ => (trodAll_cons_mk (shut_bool Tryd.underlying4 _) trodAll_mk0)) (fun _ => (trodAll_cons_mk (shut_int Tryd.underlying3 w0) (trodAll_cons_mk (shut_int Tryd.underlying3 w1) (trodAll_cons_mk (shut_int Tryd.underlying3 w2) trodAll_mk0)))) (fun _ => rfl) hb (ok_one (by kernel_rfl) rfl (okWide_bool_mk Tryd.underlying4 _))⟩

theorem floatInts_holds : Rows.FloatIntsSaid :=
  OpenClaim.holds_of_wide 7 Tryd.f7 rfl rfl rfl rfl rfl rfl rfl ⟨rfl, rfl, rfl, rfl, rfl⟩ rfl rfl rfl rfl rfl (by kernel_rfl) Tryd.func7 (by kernel_rfl)
    (of_decide_eq_true (by kernel_rfl)) (by unfold Func.isWrapper; first | (rw [if_pos (by decide +kernel)]; kernel_rfl) | (rw [if_neg (by decide +kernel)]; exact ⟨rfl, rfl⟩))
    (fun os started H enc _ => floatInts_lifted os started H enc)

theorem floatInts_card : Rows.FloatIntsCardSaid :=
  Claim7.holds_tied_plain_at .later [] [.data] true Rows.floatIntsCard.stood.harness false
    floatInts_holds (fun _ h => by cases h) (by kernel_rfl) (fun _ h => by cases h) floatInts_row_tie rfl ⟨rfl, rfl⟩ (by kernel_rfl) rfl
    (fun f fn hf hfn => by
      obtain rfl : f = 7 := Option.some.inj ((show Tryd.prog.funcNamed "quadrat/quadratlaw01.FloatInts" = some 7 by kernel_rfl).symm.trans hf) |>.symm
      obtain rfl : fn = Tryd.f7 := (Option.some.inj (Tryd.func7.symm.trans hfn)).symm
      exact ⟨by kernel_rfl, fun j t ht => by
        rw [Tryd.params7] at ht
        have hm : t ∈ [3, 3, 3] := by simpa using Array.mem_of_getElem? ht
        have hall : ([3, 3, 3].all fun u => !Tryd.prog.wantsStandIn u) = true := by kernel_rfl
        exact (show Tryd.prog.wantsStandIn t = false by simpa using List.all_eq_true.1 hall t hm)⟩)
    (by kernel_rfl)
#print axioms floatInts_card
end Go.Proofs.YtfdenbgmogojeaaDoor

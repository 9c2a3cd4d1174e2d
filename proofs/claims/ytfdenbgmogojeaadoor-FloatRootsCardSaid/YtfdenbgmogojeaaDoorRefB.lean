/- Contract of quadratref01.taken: what a float is taken apart into, for every kind and every float of it. -/
import Derived.Test.YtfdenbgmogojeaaDoorRefA
import Derived.Test.YtfdenbgmogojeaaDoorFloZ
namespace Go.Proofs.YtfdenbgmogojeaaDoor
open Go.RowKit

/-- What a float is, as the document's answer says it; its sign and exponent there. -/
def whS (c : Int) : ByteArray := if c = 0 then ⟨#[122, 101, 114, 111]⟩ else if c = 3 then ⟨#[105, 110, 102, 105, 110, 105, 116, 101]⟩ else if c = 4 then ⟨#[110, 111, 110, 101]⟩ else ⟨#[102, 105, 110, 105, 116, 101]⟩
def rS (W D a : Int) : Int := if cls D (siz W a) = 4 then 0 else sgn W a
def rE (D z : Int) : Int := if cls D z = 1 ∨ cls D z = 2 then expo D z else 0
/-- What taken returns. -/
def Taken (W D a : Int) (w : World) (e : Ending) (w' : World) : Prop :=
  ∃ v, e = .returned (.agg #[.string (whS (cls D (siz W a))), .int .i64 (rS W D a), v, .int .i64 (rE D (siz W a))]) ∧ w'.ownsRow w.heap.size 5 1 v (bl (mant D (siz W a)).toNat) (dg (mant D (siz W a)).toNat (bl (mant D (siz W a)).toNat)) ∧ Below w.heap.size w w'
theorem ownsRow_base {w : World} {b c : Nat} {e : TypeId} {s : Nat} {v : Value} {n : Nat} {xs : List Value} (h : w.ownsRow b e s v n xs) (hc : c ≤ b) : w.ownsRow c e s v n xs := by
  refine ⟨h.1, ?_⟩
  rcases h.2 with h | ⟨g, cap, cur, h1, h2, h3⟩
  · exact .inl h
  · exact .inr ⟨g, cap, cur, h1, by omega, h3⟩
theorem res52 (tm : Array Value) (R : Nat) (c s m e : Value) (w : World) (hp : tm[4]?.getD undef = .pointer (some ⟨R, 0, none⟩)) (h : Has w R [c, s, m, e]) :
    (results Tryd.f52 tm).run Tryd.prog w = .ok (.agg #[c, s, m, e]) w := by
  obtain ⟨h0, h1, h2, h3⟩ := h.c4
  simp [results, Tryd.results52, go_sem, hp, h0, h1, h2, h3]
theorem own_slice {w : World} {b : Nat} {e : TypeId} {s : Nat} {v : Value} {n : Nat} {xs : List Value} (h : w.ownsRow b e s v n xs) : ∃ ad ln cp, v = .slice ad ln cp := by
  rcases h.2 with ⟨h, _⟩ | ⟨g, cap, cur, h1, _⟩
  · exact ⟨_, _, _, h⟩
  · exact ⟨_, _, _, h1⟩
theorem ret_tk {n m : ByteArray} {s s' e e' : Int} {v : Value} (h1 : m = n) (h2 : s' = s) (h3 : e' = e) : Ending.returned (.agg #[.string n, .int .i64 s, v, .int .i64 e]) = .returned (.agg #[.string m, .int .i64 s', v, .int .i64 e']) := by rw [h1, h2, h3]
theorem Has.drewN {w : World} {n : Nat} {x : Value} {xs : List Value} (h : Has w n (x :: xs)) (k : Nat) : Has (w.drewN k) n (x :: xs) := h.keep (below_drewN (Below.refl _ _) k)
theorem Has.set4' {w : World} {n : Nat} {p q r s : Value} (a b c d : Value) (h : Has w n [p, q, r, s]) : Has ((((w.setCell ⟨n, 0, none⟩ a).setCell ⟨n, 1, none⟩ b).setCell ⟨n, 2, none⟩ c).setCell ⟨n, 3, none⟩ d) n [a, b, c, d] := (((h.set).set).set).set
theorem own4 {w : World} {b n : Nat} {e : TypeId} {s : Nat} {v : Value} {m : Nat} {xs : List Value} (h : w.ownsRow b e s v m xs) (hn : n < b) (a b' c d : Value) : ((((w.setCell ⟨n, 0, none⟩ a).setCell ⟨n, 1, none⟩ b').setCell ⟨n, 2, none⟩ c).setCell ⟨n, 3, none⟩ d).ownsRow b e s v m xs :=
  ownsRow_setCell_below (ownsRow_setCell_below (ownsRow_setCell_below (ownsRow_setCell_below h hn a) hn b') hn c) hn d
theorem below4 {w w' : World} {B n : Nat} (h : Below B w w') (hn : B ≤ n) (a b c d : Value) : Below B w ((((w'.setCell ⟨n, 0, none⟩ a).setCell ⟨n, 1, none⟩ b).setCell ⟨n, 2, none⟩ c).setCell ⟨n, 3, none⟩ d) := (((h.st hn).st hn).st hn).st hn
theorem digs_zero (n : Nat) (h : n = 0) (w : World) (B : Nat) : w.ownsRow B 5 1 (.slice none 0 0) (bl n) (dg n (bl n)) := by subst h; exact World.ownsRow_nil _ _ _ _
/-- The three pieces of a float's bits. -/
theorem bit_f (a : Int) (n : Nat) (hn : n ≤ 64) : bits .and .u64 (IntKind.u64.wrap a) (((2 ^ n - 1 : Nat) : Nat) : Int) = a % ((2 ^ n : Nat) : Int) := and_mask_u64 a n hn
theorem u64_nat (a : Int) : ∃ m : Nat, IntKind.u64.wrap a = (m : Int) ∧ m < 18446744073709551616 ∧ a % 18446744073709551616 = (m : Int) := by
  refine ⟨(a % 18446744073709551616).toNat, ?_, ?_, ?_⟩
  · rw [IntKind.wrap_u64]; omega
  · omega
  · omega

theorem f1_2 (a : Int) : bits .and .u64 (IntKind.u64.wrap a) 1023 = siz 16 a % 1024 := by
  have h := bit_f a 10 (by decide)
  rw [show (((2 ^ 10 - 1 : Nat) : Nat) : Int) = 1023 by decide +kernel, show (((2 ^ 10 : Nat) : Nat) : Int) = 1024 by decide +kernel] at h
  rw [h]; unfold siz; rw [hf16]; omega
theorem f2_2 (a : Int) : bits .and .u64 (IntKind.u64.wrap a / 1024) 31 = siz 16 a / 1024 := by
  obtain ⟨m, e, hm, e2⟩ := u64_nat a
  have h := bits_and_u64_nat (m / 1024) 31 (by omega) (by decide)
  rw [nat_mask5] at h
  rw [e, show ((m : Int) / 1024) = ((m / 1024 : Nat) : Int) by omega, show ((31 : Int)) = ((31 : Nat) : Int) by rfl, h]
  unfold siz; rw [hf16]; omega
theorem f3_2 (a : Int) (h : okB 16 a = true) : bits .and .u64 (IntKind.u64.wrap a / 32768) 1 = sgn 16 a := by
  obtain ⟨m, e, hm, e2⟩ := u64_nat a
  have h' := bits_and_u64_nat (m / 32768) 1 (by omega) (by decide)
  rw [nat_mask1] at h'
  rw [e, show ((m : Int) / 32768) = ((m / 32768 : Nat) : Int) by omega, show ((1 : Int)) = ((1 : Nat) : Int) by rfl, h']
  simp [okB, hf] at h
  unfold sgn; rw [hf16, e2]
  by_cases c : (m : Int) < 32768
  · rw [if_pos c]; omega
  · rw [if_neg c]; omega
theorem fb_2 (a : Int) : 0 ≤ siz 16 a % 1024 ∧ siz 16 a % 1024 < 1024 ∧ 0 ≤ siz 16 a / 1024 ∧ siz 16 a / 1024 ≤ 31 := by
  unfold siz; rw [hf16]; omega
theorem fc_2 (a : Int) : (cls 11 (siz 16 a) = 3 → siz 16 a / 1024 = 31 ∧ siz 16 a % 1024 = 0) ∧ (cls 11 (siz 16 a) = 4 → siz 16 a / 1024 = 31 ∧ ¬ siz 16 a % 1024 = 0) ∧ (cls 11 (siz 16 a) = 0 → siz 16 a / 1024 = 0 ∧ siz 16 a % 1024 = 0) ∧ (cls 11 (siz 16 a) = 1 → siz 16 a / 1024 = 0 ∧ ¬ siz 16 a % 1024 = 0) ∧ (cls 11 (siz 16 a) = 2 → ¬ siz 16 a / 1024 = 0 ∧ ¬ siz 16 a / 1024 = 31) := by
  have hb : 0 ≤ siz 16 a ∧ siz 16 a < 32768 := by unfold siz; rw [hf16]; omega
  generalize siz 16 a = z at *
  unfold cls
  rw [show hid 11 = 1024 by rfl, show endl 11 = 31744 by rfl]
  refine ⟨?_, ?_, ?_, ?_, ?_⟩ <;> (repeat' split) <;> omega

set_option maxRecDepth 100000 in
set_option maxHeartbeats 4000000 in
theorem taken_2_0 (a : Int) (hv : okB 16 a = true) (c : cls 11 (siz 16 a) = 0) (w : World) : Calls Tryd.prog 52 #[.int .i64 2, .int .i64 a] w (Taken 16 11 a w) := by
  have hc := fc_2 a
  obtain ⟨q1, q2⟩ := hc.2.2.1 c
  obtain ⟨b0, b1, b2, b3⟩ := fb_2 a
  have t0 : (siz 16 a / 1024 == 31) = false := by simp; omega
  have t1 : (siz 16 a / 1024 == 0) = true := by simp; omega
  have t2 : (siz 16 a % 1024 == 0) = true := by simp; omega
  have hwh := Lib.hid (show whS (cls 11 (siz 16 a)) = whS 0 by rw [c])
  have hrs := Lib.hid (show rS 16 11 a = sgn 16 a by unfold rS; rw [if_neg (by omega)])
  have hmt := Lib.hid (show mant 11 (siz 16 a) = 0 by unfold mant; rw [if_pos (by omega)]; unfold cls at c; split at c <;> first | assumption | (repeat' split at c) <;> omega)
  have hre := Lib.hid (show rE 11 (siz 16 a) = 0 by unfold rE; rw [if_neg (by omega)])
  have g1 := f1_2 a
  have g2 := f2_2 a
  have g3 := f3_2 a hv
  have hs01 : 0 ≤ sgn 16 a ∧ sgn 16 a ≤ 1 := by have := sgn_s 16 a; unfold Sgn at this; omega
  obtain ⟨s0, s1⟩ := hs01
  clear hc c hv q1 q2
  go_enter Tryd.func52, Tryd.ntmps52
  go_wp2_with (first | go_in | fail)
  go_quiet (fail)
  go_wp2
  refine bodyPost_ret (res52 _ w.heap.size _ _ _ _ _ rfl (Has.set4' (.string ⟨#[122, 101, 114, 111]⟩) (.int .i64 (sgn 16 a)) (.slice none 0 0) (.int .i64 0) (((Has.new w [.string ⟨#[]⟩, .int .i64 0, .slice none 0 0, .int .i64 0] 53).drewN nq)))) rfl ⟨.slice none 0 0, ret_tk hwh.out hrs.out hre.out, digs_zero _ (by rw [hmt.out]; rfl) _ _, below4 (below_drewN ((Below.refl _ _).alloc (Nat.le_refl _) _) nq) (Nat.le_refl _) _ _ _ _⟩

set_option maxRecDepth 100000 in
set_option maxHeartbeats 4000000 in
theorem taken_2_1 (a : Int) (hv : okB 16 a = true) (c : cls 11 (siz 16 a) = 1) (w : World) : Calls Tryd.prog 52 #[.int .i64 2, .int .i64 a] w (Taken 16 11 a w) := by
  have hc := fc_2 a
  obtain ⟨q1, q2⟩ := hc.2.2.2.1 c
  obtain ⟨b0, b1, b2, b3⟩ := fb_2 a
  have t0 : (siz 16 a / 1024 == 31) = false := by simp; omega
  have t1 : (siz 16 a / 1024 == 0) = true := by simp; omega
  have t2 : (siz 16 a % 1024 == 0) = false := by simp; omega
  have hwh := Lib.hid (show whS (cls 11 (siz 16 a)) = whS 1 by rw [c])
  have hrs := Lib.hid (show rS 16 11 a = sgn 16 a by unfold rS; rw [if_neg (by omega)])
  have hmt := Lib.hid (show mant 11 (siz 16 a) = siz 16 a % 1024 by unfold mant; rw [if_pos (by omega)]; omega)
  have hre := Lib.hid (show rE 11 (siz 16 a) = -24 by unfold rE expo; rw [if_pos (.inl c), if_pos (by omega)]; rfl)
  have g1 := f1_2 a
  have g2 := f2_2 a
  have g3 := f3_2 a hv
  have hs01 : 0 ≤ sgn 16 a ∧ sgn 16 a ≤ 1 := by have := sgn_s 16 a; unfold Sgn at this; omega
  obtain ⟨s0, s1⟩ := hs01
  have hNn := Lib.hid (show IntKind.u64.wrap (siz 16 a % 1024) = (((mant 11 (siz 16 a)).toNat : Nat) : Int) ∧ (mant 11 (siz 16 a)).toNat < 18446744073709551616 by have := hmt.out; rw [IntKind.wrap_u64]; omega)
  clear hc c hv q1 q2
  go_enter Tryd.func52, Tryd.ntmps52
  go_wp2_with (first | go_in | fail)
  go_quiet (fail)
  have hX := ((Has.new w [.string ⟨#[]⟩, .int .i64 0, .slice none 0 0, .int .i64 0] 53).drewN nq)
  have hB0 := below_drewN ((Below.refl w.heap.size w).alloc (Nat.le_refl _) (.cells (List.toArray [.string ⟨#[]⟩, .int .i64 0, .slice none 0 0, .int .i64 0]) 53)) nq
  go_wp2_with (first | (go_at_call 83; refine (Of_c _ _ hNn.out.1 hNn.out.2 _).mono ?_; rintro e w1 ⟨v0, rfl, hown, hb⟩; obtain ⟨ad, ln, cp, hv0⟩ := own_slice hown; subst hv0; have hX1 := hX.keep hb; obtain ⟨x0, x1, x2, x3⟩ := hX1.c4; obtain ⟨y0, y1, y2, y3⟩ := hX1.f4) | go_in)
  refine bodyPost_ret (res52 _ w.heap.size _ _ _ _ _ rfl (Has.set4' (.string ⟨#[102, 105, 110, 105, 116, 101]⟩) (.int .i64 (sgn 16 a)) (.slice ad ln cp) (.int .i64 (-24)) hX1)) rfl ⟨.slice ad ln cp, ret_tk hwh.out hrs.out hre.out, ownsRow_base (own4 hown hX.lt _ _ _ _) (Nat.le_of_lt hX.lt), below4 (bt hB0 hb) (Nat.le_refl _) _ _ _ _⟩

set_option maxRecDepth 100000 in
set_option maxHeartbeats 4000000 in
theorem taken_2_2 (a : Int) (hv : okB 16 a = true) (c : cls 11 (siz 16 a) = 2) (w : World) : Calls Tryd.prog 52 #[.int .i64 2, .int .i64 a] w (Taken 16 11 a w) := by
  have hc := fc_2 a
  obtain ⟨q1, q2⟩ := hc.2.2.2.2 c
  obtain ⟨b0, b1, b2, b3⟩ := fb_2 a
  have t0 : (siz 16 a / 1024 == 31) = false := by simp; omega
  have t1 : (siz 16 a / 1024 == 0) = false := by simp; omega
  have hwh := Lib.hid (show whS (cls 11 (siz 16 a)) = whS 2 by rw [c])
  have hrs := Lib.hid (show rS 16 11 a = sgn 16 a by unfold rS; rw [if_neg (by omega)])
  have hmt := Lib.hid (show mant 11 (siz 16 a) = 1024 + siz 16 a % 1024 by unfold mant; rw [if_neg (by omega), if_pos c, show hid 11 = 1024 by rfl]; omega)
  have hre := Lib.hid (show rE 11 (siz 16 a) = siz 16 a / 1024 - 15 - 11 + 1 by unfold rE expo; rw [if_pos (.inr c), if_neg (by omega), if_pos c, show hid 11 = 1024 by rfl, show low 11 = -24 by rfl]; omega)
  have g1 := f1_2 a
  have g2 := f2_2 a
  have g3 := f3_2 a hv
  have hs01 : 0 ≤ sgn 16 a ∧ sgn 16 a ≤ 1 := by have := sgn_s 16 a; unfold Sgn at this; omega
  obtain ⟨s0, s1⟩ := hs01
  have hNn := Lib.hid (show IntKind.u64.wrap (1024 + siz 16 a % 1024) = (((mant 11 (siz 16 a)).toNat : Nat) : Int) ∧ (mant 11 (siz 16 a)).toNat < 18446744073709551616 by have := hmt.out; rw [IntKind.wrap_u64]; omega)
  clear hc c hv q1 q2
  go_enter Tryd.func52, Tryd.ntmps52
  go_wp2_with (first | go_in | fail)
  go_quiet (fail)
  have hX := ((Has.new w [.string ⟨#[]⟩, .int .i64 0, .slice none 0 0, .int .i64 0] 53).drewN nq)
  have hB0 := below_drewN ((Below.refl w.heap.size w).alloc (Nat.le_refl _) (.cells (List.toArray [.string ⟨#[]⟩, .int .i64 0, .slice none 0 0, .int .i64 0]) 53)) nq
  go_wp2_with (first | (go_at_call 83; refine (Of_c _ _ hNn.out.1 hNn.out.2 _).mono ?_; rintro e w1 ⟨v0, rfl, hown, hb⟩; obtain ⟨ad, ln, cp, hv0⟩ := own_slice hown; subst hv0; have hX1 := hX.keep hb; obtain ⟨x0, x1, x2, x3⟩ := hX1.c4; obtain ⟨y0, y1, y2, y3⟩ := hX1.f4) | go_in)
  refine bodyPost_ret (res52 _ w.heap.size _ _ _ _ _ rfl (Has.set4' (.string ⟨#[102, 105, 110, 105, 116, 101]⟩) (.int .i64 (sgn 16 a)) (.slice ad ln cp) (.int .i64 (siz 16 a / 1024 - 15 - 11 + 1)) hX1)) rfl ⟨.slice ad ln cp, ret_tk hwh.out hrs.out hre.out, ownsRow_base (own4 hown hX.lt _ _ _ _) (Nat.le_of_lt hX.lt), below4 (bt hB0 hb) (Nat.le_refl _) _ _ _ _⟩

set_option maxRecDepth 100000 in
set_option maxHeartbeats 4000000 in
theorem taken_2_3 (a : Int) (hv : okB 16 a = true) (c : cls 11 (siz 16 a) = 3) (w : World) : Calls Tryd.prog 52 #[.int .i64 2, .int .i64 a] w (Taken 16 11 a w) := by
  have hc := fc_2 a
  obtain ⟨q1, q2⟩ := hc.1 c
  obtain ⟨b0, b1, b2, b3⟩ := fb_2 a
  have t0 : (siz 16 a / 1024 == 31) = true := by simp; omega
  have t2 : (siz 16 a % 1024 == 0) = true := by simp; omega
  have hwh := Lib.hid (show whS (cls 11 (siz 16 a)) = whS 3 by rw [c])
  have hrs := Lib.hid (show rS 16 11 a = sgn 16 a by unfold rS; rw [if_neg (by omega)])
  have hmt := Lib.hid (show mant 11 (siz 16 a) = 0 by unfold mant; rw [if_neg (by omega), if_neg (by omega)])
  have hre := Lib.hid (show rE 11 (siz 16 a) = 0 by unfold rE; rw [if_neg (by omega)])
  have g1 := f1_2 a
  have g2 := f2_2 a
  have g3 := f3_2 a hv
  have hs01 : 0 ≤ sgn 16 a ∧ sgn 16 a ≤ 1 := by have := sgn_s 16 a; unfold Sgn at this; omega
  obtain ⟨s0, s1⟩ := hs01
  clear hc c hv q1 q2
  go_enter Tryd.func52, Tryd.ntmps52
  go_wp2_with (first | go_in | fail)
  go_quiet (fail)
  go_wp2
  refine bodyPost_ret (res52 _ w.heap.size _ _ _ _ _ rfl (Has.set4' (.string ⟨#[105, 110, 102, 105, 110, 105, 116, 101]⟩) (.int .i64 (sgn 16 a)) (.slice none 0 0) (.int .i64 0) (((Has.new w [.string ⟨#[]⟩, .int .i64 0, .slice none 0 0, .int .i64 0] 53).drewN nq)))) rfl ⟨.slice none 0 0, ret_tk hwh.out hrs.out hre.out, digs_zero _ (by rw [hmt.out]; rfl) _ _, below4 (below_drewN ((Below.refl _ _).alloc (Nat.le_refl _) _) nq) (Nat.le_refl _) _ _ _ _⟩

set_option maxRecDepth 100000 in
set_option maxHeartbeats 4000000 in
theorem taken_2_4 (a : Int) (hv : okB 16 a = true) (c : cls 11 (siz 16 a) = 4) (w : World) : Calls Tryd.prog 52 #[.int .i64 2, .int .i64 a] w (Taken 16 11 a w) := by
  have hc := fc_2 a
  obtain ⟨q1, q2⟩ := hc.2.1 c
  obtain ⟨b0, b1, b2, b3⟩ := fb_2 a
  have t0 : (siz 16 a / 1024 == 31) = true := by simp; omega
  have t2 : (siz 16 a % 1024 == 0) = false := by simp; omega
  have hwh := Lib.hid (show whS (cls 11 (siz 16 a)) = whS 4 by rw [c])
  have hrs := Lib.hid (show rS 16 11 a = 0 by unfold rS; rw [if_pos c])
  have hmt := Lib.hid (show mant 11 (siz 16 a) = 0 by unfold mant; rw [if_neg (by omega), if_neg (by omega)])
  have hre := Lib.hid (show rE 11 (siz 16 a) = 0 by unfold rE; rw [if_neg (by omega)])
  have g1 := f1_2 a
  have g2 := f2_2 a
  have g3 := f3_2 a hv
  have hs01 : 0 ≤ sgn 16 a ∧ sgn 16 a ≤ 1 := by have := sgn_s 16 a; unfold Sgn at this; omega
  obtain ⟨s0, s1⟩ := hs01
  clear hc c hv q1 q2
  go_enter Tryd.func52, Tryd.ntmps52
  go_wp2_with (first | go_in | fail)
  go_quiet (fail)
  go_wp2
  refine bodyPost_ret (res52 _ w.heap.size _ _ _ _ _ rfl (Has.set4' (.string ⟨#[110, 111, 110, 101]⟩) (.int .i64 0) (.slice none 0 0) (.int .i64 0) (((Has.new w [.string ⟨#[]⟩, .int .i64 0, .slice none 0 0, .int .i64 0] 53).drewN nq)))) rfl ⟨.slice none 0 0, ret_tk hwh.out hrs.out hre.out, digs_zero _ (by rw [hmt.out]; rfl) _ _, below4 (below_drewN ((Below.refl _ _).alloc (Nat.le_refl _) _) nq) (Nat.le_refl _) _ _ _ _⟩

theorem f1_4 (a : Int) : bits .and .u64 (IntKind.u64.wrap a) 8388607 = siz 32 a % 8388608 := by
  have h := bit_f a 23 (by decide)
  rw [show (((2 ^ 23 - 1 : Nat) : Nat) : Int) = 8388607 by decide +kernel, show (((2 ^ 23 : Nat) : Nat) : Int) = 8388608 by decide +kernel] at h
  rw [h]; unfold siz; rw [hf32]; omega
theorem f2_4 (a : Int) : bits .and .u64 (IntKind.u64.wrap a / 8388608) 255 = siz 32 a / 8388608 := by
  obtain ⟨m, e, hm, e2⟩ := u64_nat a
  have h := bits_and_u64_nat (m / 8388608) 255 (by omega) (by decide)
  rw [nat_mask8] at h
  rw [e, show ((m : Int) / 8388608) = ((m / 8388608 : Nat) : Int) by omega, show ((255 : Int)) = ((255 : Nat) : Int) by rfl, h]
  unfold siz; rw [hf32]; omega
theorem f3_4 (a : Int) (h : okB 32 a = true) : bits .and .u64 (IntKind.u64.wrap a / 2147483648) 1 = sgn 32 a := by
  obtain ⟨m, e, hm, e2⟩ := u64_nat a
  have h' := bits_and_u64_nat (m / 2147483648) 1 (by omega) (by decide)
  rw [nat_mask1] at h'
  rw [e, show ((m : Int) / 2147483648) = ((m / 2147483648 : Nat) : Int) by omega, show ((1 : Int)) = ((1 : Nat) : Int) by rfl, h']
  simp [okB, hf] at h
  unfold sgn; rw [hf32, e2]
  by_cases c : (m : Int) < 2147483648
  · rw [if_pos c]; omega
  · rw [if_neg c]; omega
theorem fb_4 (a : Int) : 0 ≤ siz 32 a % 8388608 ∧ siz 32 a % 8388608 < 8388608 ∧ 0 ≤ siz 32 a / 8388608 ∧ siz 32 a / 8388608 ≤ 255 := by
  unfold siz; rw [hf32]; omega
theorem fc_4 (a : Int) : (cls 24 (siz 32 a) = 3 → siz 32 a / 8388608 = 255 ∧ siz 32 a % 8388608 = 0) ∧ (cls 24 (siz 32 a) = 4 → siz 32 a / 8388608 = 255 ∧ ¬ siz 32 a % 8388608 = 0) ∧ (cls 24 (siz 32 a) = 0 → siz 32 a / 8388608 = 0 ∧ siz 32 a % 8388608 = 0) ∧ (cls 24 (siz 32 a) = 1 → siz 32 a / 8388608 = 0 ∧ ¬ siz 32 a % 8388608 = 0) ∧ (cls 24 (siz 32 a) = 2 → ¬ siz 32 a / 8388608 = 0 ∧ ¬ siz 32 a / 8388608 = 255) := by
  have hb : 0 ≤ siz 32 a ∧ siz 32 a < 2147483648 := by unfold siz; rw [hf32]; omega
  generalize siz 32 a = z at *
  unfold cls
  rw [show hid 24 = 8388608 by rfl, show endl 24 = 2139095040 by rfl]
  refine ⟨?_, ?_, ?_, ?_, ?_⟩ <;> (repeat' split) <;> omega

set_option maxRecDepth 100000 in
set_option maxHeartbeats 4000000 in
theorem taken_4_0 (a : Int) (hv : okB 32 a = true) (c : cls 24 (siz 32 a) = 0) (w : World) : Calls Tryd.prog 52 #[.int .i64 4, .int .i64 a] w (Taken 32 24 a w) := by
  have hc := fc_4 a
  obtain ⟨q1, q2⟩ := hc.2.2.1 c
  obtain ⟨b0, b1, b2, b3⟩ := fb_4 a
  have t0 : (siz 32 a / 8388608 == 255) = false := by simp; omega
  have t1 : (siz 32 a / 8388608 == 0) = true := by simp; omega
  have t2 : (siz 32 a % 8388608 == 0) = true := by simp; omega
  have hwh := Lib.hid (show whS (cls 24 (siz 32 a)) = whS 0 by rw [c])
  have hrs := Lib.hid (show rS 32 24 a = sgn 32 a by unfold rS; rw [if_neg (by omega)])
  have hmt := Lib.hid (show mant 24 (siz 32 a) = 0 by unfold mant; rw [if_pos (by omega)]; unfold cls at c; split at c <;> first | assumption | (repeat' split at c) <;> omega)
  have hre := Lib.hid (show rE 24 (siz 32 a) = 0 by unfold rE; rw [if_neg (by omega)])
  have g1 := f1_4 a
  have g2 := f2_4 a
  have g3 := f3_4 a hv
  have hs01 : 0 ≤ sgn 32 a ∧ sgn 32 a ≤ 1 := by have := sgn_s 32 a; unfold Sgn at this; omega
  obtain ⟨s0, s1⟩ := hs01
  clear hc c hv q1 q2
  go_enter Tryd.func52, Tryd.ntmps52
  go_wp2_with (first | go_in | fail)
  go_quiet (fail)
  go_wp2
  refine bodyPost_ret (res52 _ w.heap.size _ _ _ _ _ rfl (Has.set4' (.string ⟨#[122, 101, 114, 111]⟩) (.int .i64 (sgn 32 a)) (.slice none 0 0) (.int .i64 0) (((Has.new w [.string ⟨#[]⟩, .int .i64 0, .slice none 0 0, .int .i64 0] 53).drewN nq)))) rfl ⟨.slice none 0 0, ret_tk hwh.out hrs.out hre.out, digs_zero _ (by rw [hmt.out]; rfl) _ _, below4 (below_drewN ((Below.refl _ _).alloc (Nat.le_refl _) _) nq) (Nat.le_refl _) _ _ _ _⟩

set_option maxRecDepth 100000 in
set_option maxHeartbeats 4000000 in
theorem taken_4_1 (a : Int) (hv : okB 32 a = true) (c : cls 24 (siz 32 a) = 1) (w : World) : Calls Tryd.prog 52 #[.int .i64 4, .int .i64 a] w (Taken 32 24 a w) := by
  have hc := fc_4 a
  obtain ⟨q1, q2⟩ := hc.2.2.2.1 c
  obtain ⟨b0, b1, b2, b3⟩ := fb_4 a
  have t0 : (siz 32 a / 8388608 == 255) = false := by simp; omega
  have t1 : (siz 32 a / 8388608 == 0) = true := by simp; omega
  have t2 : (siz 32 a % 8388608 == 0) = false := by simp; omega
  have hwh := Lib.hid (show whS (cls 24 (siz 32 a)) = whS 1 by rw [c])
  have hrs := Lib.hid (show rS 32 24 a = sgn 32 a by unfold rS; rw [if_neg (by omega)])
  have hmt := Lib.hid (show mant 24 (siz 32 a) = siz 32 a % 8388608 by unfold mant; rw [if_pos (by omega)]; omega)
  have hre := Lib.hid (show rE 24 (siz 32 a) = -149 by unfold rE expo; rw [if_pos (.inl c), if_pos (by omega)]; rfl)
  have g1 := f1_4 a
  have g2 := f2_4 a
  have g3 := f3_4 a hv
  have hs01 : 0 ≤ sgn 32 a ∧ sgn 32 a ≤ 1 := by have := sgn_s 32 a; unfold Sgn at this; omega
  obtain ⟨s0, s1⟩ := hs01
  have hNn := Lib.hid (show IntKind.u64.wrap (siz 32 a % 8388608) = (((mant 24 (siz 32 a)).toNat : Nat) : Int) ∧ (mant 24 (siz 32 a)).toNat < 18446744073709551616 by have := hmt.out; rw [IntKind.wrap_u64]; omega)
  clear hc c hv q1 q2
  go_enter Tryd.func52, Tryd.ntmps52
  go_wp2_with (first | go_in | fail)
  go_quiet (fail)
  have hX := ((Has.new w [.string ⟨#[]⟩, .int .i64 0, .slice none 0 0, .int .i64 0] 53).drewN nq)
  have hB0 := below_drewN ((Below.refl w.heap.size w).alloc (Nat.le_refl _) (.cells (List.toArray [.string ⟨#[]⟩, .int .i64 0, .slice none 0 0, .int .i64 0]) 53)) nq
  go_wp2_with (first | (go_at_call 83; refine (Of_c _ _ hNn.out.1 hNn.out.2 _).mono ?_; rintro e w1 ⟨v0, rfl, hown, hb⟩; obtain ⟨ad, ln, cp, hv0⟩ := own_slice hown; subst hv0; have hX1 := hX.keep hb; obtain ⟨x0, x1, x2, x3⟩ := hX1.c4; obtain ⟨y0, y1, y2, y3⟩ := hX1.f4) | go_in)
  refine bodyPost_ret (res52 _ w.heap.size _ _ _ _ _ rfl (Has.set4' (.string ⟨#[102, 105, 110, 105, 116, 101]⟩) (.int .i64 (sgn 32 a)) (.slice ad ln cp) (.int .i64 (-149)) hX1)) rfl ⟨.slice ad ln cp, ret_tk hwh.out hrs.out hre.out, ownsRow_base (own4 hown hX.lt _ _ _ _) (Nat.le_of_lt hX.lt), below4 (bt hB0 hb) (Nat.le_refl _) _ _ _ _⟩

set_option maxRecDepth 100000 in
set_option maxHeartbeats 4000000 in
theorem taken_4_2 (a : Int) (hv : okB 32 a = true) (c : cls 24 (siz 32 a) = 2) (w : World) : Calls Tryd.prog 52 #[.int .i64 4, .int .i64 a] w (Taken 32 24 a w) := by
  have hc := fc_4 a
  obtain ⟨q1, q2⟩ := hc.2.2.2.2 c
  obtain ⟨b0, b1, b2, b3⟩ := fb_4 a
  have t0 : (siz 32 a / 8388608 == 255) = false := by simp; omega
  have t1 : (siz 32 a / 8388608 == 0) = false := by simp; omega
  have hwh := Lib.hid (show whS (cls 24 (siz 32 a)) = whS 2 by rw [c])
  have hrs := Lib.hid (show rS 32 24 a = sgn 32 a by unfold rS; rw [if_neg (by omega)])
  have hmt := Lib.hid (show mant 24 (siz 32 a) = 8388608 + siz 32 a % 8388608 by unfold mant; rw [if_neg (by omega), if_pos c, show hid 24 = 8388608 by rfl]; omega)
  have hre := Lib.hid (show rE 24 (siz 32 a) = siz 32 a / 8388608 - 127 - 24 + 1 by unfold rE expo; rw [if_pos (.inr c), if_neg (by omega), if_pos c, show hid 24 = 8388608 by rfl, show low 24 = -149 by rfl]; omega)
  have g1 := f1_4 a
  have g2 := f2_4 a
  have g3 := f3_4 a hv
  have hs01 : 0 ≤ sgn 32 a ∧ sgn 32 a ≤ 1 := by have := sgn_s 32 a; unfold Sgn at this; omega
  obtain ⟨s0, s1⟩ := hs01
  have hNn := Lib.hid (show IntKind.u64.wrap (8388608 + siz 32 a % 8388608) = (((mant 24 (siz 32 a)).toNat : Nat) : Int) ∧ (mant 24 (siz 32 a)).toNat < 18446744073709551616 by have := hmt.out; rw [IntKind.wrap_u64]; omega)
  clear hc c hv q1 q2
  go_enter Tryd.func52, Tryd.ntmps52
  go_wp2_with (first | go_in | fail)
  go_quiet (fail)
  have hX := ((Has.new w [.string ⟨#[]⟩, .int .i64 0, .slice none 0 0, .int .i64 0] 53).drewN nq)
  have hB0 := below_drewN ((Below.refl w.heap.size w).alloc (Nat.le_refl _) (.cells (List.toArray [.string ⟨#[]⟩, .int .i64 0, .slice none 0 0, .int .i64 0]) 53)) nq
  go_wp2_with (first | (go_at_call 83; refine (Of_c _ _ hNn.out.1 hNn.out.2 _).mono ?_; rintro e w1 ⟨v0, rfl, hown, hb⟩; obtain ⟨ad, ln, cp, hv0⟩ := own_slice hown; subst hv0; have hX1 := hX.keep hb; obtain ⟨x0, x1, x2, x3⟩ := hX1.c4; obtain ⟨y0, y1, y2, y3⟩ := hX1.f4) | go_in)
  refine bodyPost_ret (res52 _ w.heap.size _ _ _ _ _ rfl (Has.set4' (.string ⟨#[102, 105, 110, 105, 116, 101]⟩) (.int .i64 (sgn 32 a)) (.slice ad ln cp) (.int .i64 (siz 32 a / 8388608 - 127 - 24 + 1)) hX1)) rfl ⟨.slice ad ln cp, ret_tk hwh.out hrs.out hre.out, ownsRow_base (own4 hown hX.lt _ _ _ _) (Nat.le_of_lt hX.lt), below4 (bt hB0 hb) (Nat.le_refl _) _ _ _ _⟩

set_option maxRecDepth 100000 in
set_option maxHeartbeats 4000000 in
theorem taken_4_3 (a : Int) (hv : okB 32 a = true) (c : cls 24 (siz 32 a) = 3) (w : World) : Calls Tryd.prog 52 #[.int .i64 4, .int .i64 a] w (Taken 32 24 a w) := by
  have hc := fc_4 a
  obtain ⟨q1, q2⟩ := hc.1 c
  obtain ⟨b0, b1, b2, b3⟩ := fb_4 a
  have t0 : (siz 32 a / 8388608 == 255) = true := by simp; omega
  have t2 : (siz 32 a % 8388608 == 0) = true := by simp; omega
  have hwh := Lib.hid (show whS (cls 24 (siz 32 a)) = whS 3 by rw [c])
  have hrs := Lib.hid (show rS 32 24 a = sgn 32 a by unfold rS; rw [if_neg (by omega)])
  have hmt := Lib.hid (show mant 24 (siz 32 a) = 0 by unfold mant; rw [if_neg (by omega), if_neg (by omega)])
  have hre := Lib.hid (show rE 24 (siz 32 a) = 0 by unfold rE; rw [if_neg (by omega)])
  have g1 := f1_4 a
  have g2 := f2_4 a
  have g3 := f3_4 a hv
  have hs01 : 0 ≤ sgn 32 a ∧ sgn 32 a ≤ 1 := by have := sgn_s 32 a; unfold Sgn at this; omega
  obtain ⟨s0, s1⟩ := hs01
  clear hc c hv q1 q2
  go_enter Tryd.func52, Tryd.ntmps52
  go_wp2_with (first | go_in | fail)
  go_quiet (fail)
  go_wp2
  refine bodyPost_ret (res52 _ w.heap.size _ _ _ _ _ rfl (Has.set4' (.string ⟨#[105, 110, 102, 105, 110, 105, 116, 101]⟩) (.int .i64 (sgn 32 a)) (.slice none 0 0) (.int .i64 0) (((Has.new w [.string ⟨#[]⟩, .int .i64 0, .slice none 0 0, .int .i64 0] 53).drewN nq)))) rfl ⟨.slice none 0 0, ret_tk hwh.out hrs.out hre.out, digs_zero _ (by rw [hmt.out]; rfl) _ _, below4 (below_drewN ((Below.refl _ _).alloc (Nat.le_refl _) _) nq) (Nat.le_refl _) _ _ _ _⟩

set_option maxRecDepth 100000 in
set_option maxHeartbeats 4000000 in
theorem taken_4_4 (a : Int) (hv : okB 32 a = true) (c : cls 24 (siz 32 a) = 4) (w : World) : Calls Tryd.prog 52 #[.int .i64 4, .int .i64 a] w (Taken 32 24 a w) := by
  have hc := fc_4 a
  obtain ⟨q1, q2⟩ := hc.2.1 c
  obtain ⟨b0, b1, b2, b3⟩ := fb_4 a
  have t0 : (siz 32 a / 8388608 == 255) = true := by simp; omega
  have t2 : (siz 32 a % 8388608 == 0) = false := by simp; omega
  have hwh := Lib.hid (show whS (cls 24 (siz 32 a)) = whS 4 by rw [c])
  have hrs := Lib.hid (show rS 32 24 a = 0 by unfold rS; rw [if_pos c])
  have hmt := Lib.hid (show mant 24 (siz 32 a) = 0 by unfold mant; rw [if_neg (by omega), if_neg (by omega)])
  have hre := Lib.hid (show rE 24 (siz 32 a) = 0 by unfold rE; rw [if_neg (by omega)])
  have g1 := f1_4 a
  have g2 := f2_4 a
  have g3 := f3_4 a hv
  have hs01 : 0 ≤ sgn 32 a ∧ sgn 32 a ≤ 1 := by have := sgn_s 32 a; unfold Sgn at this; omega
  obtain ⟨s0, s1⟩ := hs01
  clear hc c hv q1 q2
  go_enter Tryd.func52, Tryd.ntmps52
  go_wp2_with (first | go_in | fail)
  go_quiet (fail)
  go_wp2
  refine bodyPost_ret (res52 _ w.heap.size _ _ _ _ _ rfl (Has.set4' (.string ⟨#[110, 111, 110, 101]⟩) (.int .i64 0) (.slice none 0 0) (.int .i64 0) (((Has.new w [.string ⟨#[]⟩, .int .i64 0, .slice none 0 0, .int .i64 0] 53).drewN nq)))) rfl ⟨.slice none 0 0, ret_tk hwh.out hrs.out hre.out, digs_zero _ (by rw [hmt.out]; rfl) _ _, below4 (below_drewN ((Below.refl _ _).alloc (Nat.le_refl _) _) nq) (Nat.le_refl _) _ _ _ _⟩

theorem f1_8 (a : Int) : bits .and .u64 (IntKind.u64.wrap a) 4503599627370495 = siz 64 a % 4503599627370496 := by
  have h := bit_f a 52 (by decide)
  rw [show (((2 ^ 52 - 1 : Nat) : Nat) : Int) = 4503599627370495 by decide +kernel, show (((2 ^ 52 : Nat) : Nat) : Int) = 4503599627370496 by decide +kernel] at h
  rw [h]; unfold siz; rw [hf64]; omega
theorem f2_8 (a : Int) : bits .and .u64 (IntKind.u64.wrap a / 4503599627370496) 2047 = siz 64 a / 4503599627370496 := by
  obtain ⟨m, e, hm, e2⟩ := u64_nat a
  have h := bits_and_u64_nat (m / 4503599627370496) 2047 (by omega) (by decide)
  rw [nat_mask11] at h
  rw [e, show ((m : Int) / 4503599627370496) = ((m / 4503599627370496 : Nat) : Int) by omega, show ((2047 : Int)) = ((2047 : Nat) : Int) by rfl, h]
  unfold siz; rw [hf64]; omega
theorem f3_8 (a : Int) (_h : okB 64 a = true) : bits .and .u64 (IntKind.u64.wrap a / 9223372036854775808) 1 = sgn 64 a := by
  obtain ⟨m, e, hm, e2⟩ := u64_nat a
  have h' := bits_and_u64_nat (m / 9223372036854775808) 1 (by omega) (by decide)
  rw [nat_mask1] at h'
  rw [e, show ((m : Int) / 9223372036854775808) = ((m / 9223372036854775808 : Nat) : Int) by omega, show ((1 : Int)) = ((1 : Nat) : Int) by rfl, h']
  skip
  unfold sgn; rw [hf64, e2]
  by_cases c : (m : Int) < 9223372036854775808
  · rw [if_pos c]; omega
  · rw [if_neg c]; omega
theorem fb_8 (a : Int) : 0 ≤ siz 64 a % 4503599627370496 ∧ siz 64 a % 4503599627370496 < 4503599627370496 ∧ 0 ≤ siz 64 a / 4503599627370496 ∧ siz 64 a / 4503599627370496 ≤ 2047 := by
  unfold siz; rw [hf64]; omega
theorem fc_8 (a : Int) : (cls 53 (siz 64 a) = 3 → siz 64 a / 4503599627370496 = 2047 ∧ siz 64 a % 4503599627370496 = 0) ∧ (cls 53 (siz 64 a) = 4 → siz 64 a / 4503599627370496 = 2047 ∧ ¬ siz 64 a % 4503599627370496 = 0) ∧ (cls 53 (siz 64 a) = 0 → siz 64 a / 4503599627370496 = 0 ∧ siz 64 a % 4503599627370496 = 0) ∧ (cls 53 (siz 64 a) = 1 → siz 64 a / 4503599627370496 = 0 ∧ ¬ siz 64 a % 4503599627370496 = 0) ∧ (cls 53 (siz 64 a) = 2 → ¬ siz 64 a / 4503599627370496 = 0 ∧ ¬ siz 64 a / 4503599627370496 = 2047) := by
  have hb : 0 ≤ siz 64 a ∧ siz 64 a < 9223372036854775808 := by unfold siz; rw [hf64]; omega
  generalize siz 64 a = z at *
  unfold cls
  rw [show hid 53 = 4503599627370496 by rfl, show endl 53 = 9218868437227405312 by rfl]
  refine ⟨?_, ?_, ?_, ?_, ?_⟩ <;> (repeat' split) <;> omega

set_option maxRecDepth 100000 in
set_option maxHeartbeats 4000000 in
theorem taken_8_0 (a : Int) (hv : okB 64 a = true) (c : cls 53 (siz 64 a) = 0) (w : World) : Calls Tryd.prog 52 #[.int .i64 8, .int .i64 a] w (Taken 64 53 a w) := by
  have hc := fc_8 a
  obtain ⟨q1, q2⟩ := hc.2.2.1 c
  obtain ⟨b0, b1, b2, b3⟩ := fb_8 a
  have t0 : (siz 64 a / 4503599627370496 == 2047) = false := by simp; omega
  have t1 : (siz 64 a / 4503599627370496 == 0) = true := by simp; omega
  have t2 : (siz 64 a % 4503599627370496 == 0) = true := by simp; omega
  have hwh := Lib.hid (show whS (cls 53 (siz 64 a)) = whS 0 by rw [c])
  have hrs := Lib.hid (show rS 64 53 a = sgn 64 a by unfold rS; rw [if_neg (by omega)])
  have hmt := Lib.hid (show mant 53 (siz 64 a) = 0 by unfold mant; rw [if_pos (by omega)]; unfold cls at c; split at c <;> first | assumption | (repeat' split at c) <;> omega)
  have hre := Lib.hid (show rE 53 (siz 64 a) = 0 by unfold rE; rw [if_neg (by omega)])
  have g1 := f1_8 a
  have g2 := f2_8 a
  have g3 := f3_8 a hv
  have hs01 : 0 ≤ sgn 64 a ∧ sgn 64 a ≤ 1 := by have := sgn_s 64 a; unfold Sgn at this; omega
  obtain ⟨s0, s1⟩ := hs01
  clear hc c hv q1 q2
  go_enter Tryd.func52, Tryd.ntmps52
  go_wp2_with (first | go_in | fail)
  go_quiet (fail)
  go_wp2
  refine bodyPost_ret (res52 _ w.heap.size _ _ _ _ _ rfl (Has.set4' (.string ⟨#[122, 101, 114, 111]⟩) (.int .i64 (sgn 64 a)) (.slice none 0 0) (.int .i64 0) (((Has.new w [.string ⟨#[]⟩, .int .i64 0, .slice none 0 0, .int .i64 0] 53).drewN nq)))) rfl ⟨.slice none 0 0, ret_tk hwh.out hrs.out hre.out, digs_zero _ (by rw [hmt.out]; rfl) _ _, below4 (below_drewN ((Below.refl _ _).alloc (Nat.le_refl _) _) nq) (Nat.le_refl _) _ _ _ _⟩

set_option maxRecDepth 100000 in
set_option maxHeartbeats 4000000 in
theorem taken_8_1 (a : Int) (hv : okB 64 a = true) (c : cls 53 (siz 64 a) = 1) (w : World) : Calls Tryd.prog 52 #[.int .i64 8, .int .i64 a] w (Taken 64 53 a w) := by
  have hc := fc_8 a
  obtain ⟨q1, q2⟩ := hc.2.2.2.1 c
  obtain ⟨b0, b1, b2, b3⟩ := fb_8 a
  have t0 : (siz 64 a / 4503599627370496 == 2047) = false := by simp; omega
  have t1 : (siz 64 a / 4503599627370496 == 0) = true := by simp; omega
  have t2 : (siz 64 a % 4503599627370496 == 0) = false := by simp; omega
  have hwh := Lib.hid (show whS (cls 53 (siz 64 a)) = whS 1 by rw [c])
  have hrs := Lib.hid (show rS 64 53 a = sgn 64 a by unfold rS; rw [if_neg (by omega)])
  have hmt := Lib.hid (show mant 53 (siz 64 a) = siz 64 a % 4503599627370496 by unfold mant; rw [if_pos (by omega)]; omega)
  have hre := Lib.hid (show rE 53 (siz 64 a) = -1074 by unfold rE expo; rw [if_pos (.inl c), if_pos (by omega)]; rfl)
  have g1 := f1_8 a
  have g2 := f2_8 a
  have g3 := f3_8 a hv
  have hs01 : 0 ≤ sgn 64 a ∧ sgn 64 a ≤ 1 := by have := sgn_s 64 a; unfold Sgn at this; omega
  obtain ⟨s0, s1⟩ := hs01
  have hNn := Lib.hid (show IntKind.u64.wrap (siz 64 a % 4503599627370496) = (((mant 53 (siz 64 a)).toNat : Nat) : Int) ∧ (mant 53 (siz 64 a)).toNat < 18446744073709551616 by have := hmt.out; rw [IntKind.wrap_u64]; omega)
  clear hc c hv q1 q2
  go_enter Tryd.func52, Tryd.ntmps52
  go_wp2_with (first | go_in | fail)
  go_quiet (fail)
  have hX := ((Has.new w [.string ⟨#[]⟩, .int .i64 0, .slice none 0 0, .int .i64 0] 53).drewN nq)
  have hB0 := below_drewN ((Below.refl w.heap.size w).alloc (Nat.le_refl _) (.cells (List.toArray [.string ⟨#[]⟩, .int .i64 0, .slice none 0 0, .int .i64 0]) 53)) nq
  go_wp2_with (first | (go_at_call 83; refine (Of_c _ _ hNn.out.1 hNn.out.2 _).mono ?_; rintro e w1 ⟨v0, rfl, hown, hb⟩; obtain ⟨ad, ln, cp, hv0⟩ := own_slice hown; subst hv0; have hX1 := hX.keep hb; obtain ⟨x0, x1, x2, x3⟩ := hX1.c4; obtain ⟨y0, y1, y2, y3⟩ := hX1.f4) | go_in)
  refine bodyPost_ret (res52 _ w.heap.size _ _ _ _ _ rfl (Has.set4' (.string ⟨#[102, 105, 110, 105, 116, 101]⟩) (.int .i64 (sgn 64 a)) (.slice ad ln cp) (.int .i64 (-1074)) hX1)) rfl ⟨.slice ad ln cp, ret_tk hwh.out hrs.out hre.out, ownsRow_base (own4 hown hX.lt _ _ _ _) (Nat.le_of_lt hX.lt), below4 (bt hB0 hb) (Nat.le_refl _) _ _ _ _⟩

set_option maxRecDepth 100000 in
set_option maxHeartbeats 4000000 in
theorem taken_8_2 (a : Int) (hv : okB 64 a = true) (c : cls 53 (siz 64 a) = 2) (w : World) : Calls Tryd.prog 52 #[.int .i64 8, .int .i64 a] w (Taken 64 53 a w) := by
  have hc := fc_8 a
  obtain ⟨q1, q2⟩ := hc.2.2.2.2 c
  obtain ⟨b0, b1, b2, b3⟩ := fb_8 a
  have t0 : (siz 64 a / 4503599627370496 == 2047) = false := by simp; omega
  have t1 : (siz 64 a / 4503599627370496 == 0) = false := by simp; omega
  have hwh := Lib.hid (show whS (cls 53 (siz 64 a)) = whS 2 by rw [c])
  have hrs := Lib.hid (show rS 64 53 a = sgn 64 a by unfold rS; rw [if_neg (by omega)])
  have hmt := Lib.hid (show mant 53 (siz 64 a) = 4503599627370496 + siz 64 a % 4503599627370496 by unfold mant; rw [if_neg (by omega), if_pos c, show hid 53 = 4503599627370496 by rfl]; omega)
  have hre := Lib.hid (show rE 53 (siz 64 a) = siz 64 a / 4503599627370496 - 1023 - 53 + 1 by unfold rE expo; rw [if_pos (.inr c), if_neg (by omega), if_pos c, show hid 53 = 4503599627370496 by rfl, show low 53 = -1074 by rfl]; omega)
  have g1 := f1_8 a
  have g2 := f2_8 a
  have g3 := f3_8 a hv
  have hs01 : 0 ≤ sgn 64 a ∧ sgn 64 a ≤ 1 := by have := sgn_s 64 a; unfold Sgn at this; omega
  obtain ⟨s0, s1⟩ := hs01
  have hNn := Lib.hid (show IntKind.u64.wrap (4503599627370496 + siz 64 a % 4503599627370496) = (((mant 53 (siz 64 a)).toNat : Nat) : Int) ∧ (mant 53 (siz 64 a)).toNat < 18446744073709551616 by have := hmt.out; rw [IntKind.wrap_u64]; omega)
  clear hc c hv q1 q2
  go_enter Tryd.func52, Tryd.ntmps52
  go_wp2_with (first | go_in | fail)
  go_quiet (fail)
  have hX := ((Has.new w [.string ⟨#[]⟩, .int .i64 0, .slice none 0 0, .int .i64 0] 53).drewN nq)
  have hB0 := below_drewN ((Below.refl w.heap.size w).alloc (Nat.le_refl _) (.cells (List.toArray [.string ⟨#[]⟩, .int .i64 0, .slice none 0 0, .int .i64 0]) 53)) nq
  go_wp2_with (first | (go_at_call 83; refine (Of_c _ _ hNn.out.1 hNn.out.2 _).mono ?_; rintro e w1 ⟨v0, rfl, hown, hb⟩; obtain ⟨ad, ln, cp, hv0⟩ := own_slice hown; subst hv0; have hX1 := hX.keep hb; obtain ⟨x0, x1, x2, x3⟩ := hX1.c4; obtain ⟨y0, y1, y2, y3⟩ := hX1.f4) | go_in)
  refine bodyPost_ret (res52 _ w.heap.size _ _ _ _ _ rfl (Has.set4' (.string ⟨#[102, 105, 110, 105, 116, 101]⟩) (.int .i64 (sgn 64 a)) (.slice ad ln cp) (.int .i64 (siz 64 a / 4503599627370496 - 1023 - 53 + 1)) hX1)) rfl ⟨.slice ad ln cp, ret_tk hwh.out hrs.out hre.out, ownsRow_base (own4 hown hX.lt _ _ _ _) (Nat.le_of_lt hX.lt), below4 (bt hB0 hb) (Nat.le_refl _) _ _ _ _⟩

set_option maxRecDepth 100000 in
set_option maxHeartbeats 4000000 in
theorem taken_8_3 (a : Int) (hv : okB 64 a = true) (c : cls 53 (siz 64 a) = 3) (w : World) : Calls Tryd.prog 52 #[.int .i64 8, .int .i64 a] w (Taken 64 53 a w) := by
  have hc := fc_8 a
  obtain ⟨q1, q2⟩ := hc.1 c
  obtain ⟨b0, b1, b2, b3⟩ := fb_8 a
  have t0 : (siz 64 a / 4503599627370496 == 2047) = true := by simp; omega
  have t2 : (siz 64 a % 4503599627370496 == 0) = true := by simp; omega
  have hwh := Lib.hid (show whS (cls 53 (siz 64 a)) = whS 3 by rw [c])
  have hrs := Lib.hid (show rS 64 53 a = sgn 64 a by unfold rS; rw [if_neg (by omega)])
  have hmt := Lib.hid (show mant 53 (siz 64 a) = 0 by unfold mant; rw [if_neg (by omega), if_neg (by omega)])
  have hre := Lib.hid (show rE 53 (siz 64 a) = 0 by unfold rE; rw [if_neg (by omega)])
  have g1 := f1_8 a
  have g2 := f2_8 a
  have g3 := f3_8 a hv
  have hs01 : 0 ≤ sgn 64 a ∧ sgn 64 a ≤ 1 := by have := sgn_s 64 a; unfold Sgn at this; omega
  obtain ⟨s0, s1⟩ := hs01
  clear hc c hv q1 q2
  go_enter Tryd.func52, Tryd.ntmps52
  go_wp2_with (first | go_in | fail)
  go_quiet (fail)
  go_wp2
  refine bodyPost_ret (res52 _ w.heap.size _ _ _ _ _ rfl (Has.set4' (.string ⟨#[105, 110, 102, 105, 110, 105, 116, 101]⟩) (.int .i64 (sgn 64 a)) (.slice none 0 0) (.int .i64 0) (((Has.new w [.string ⟨#[]⟩, .int .i64 0, .slice none 0 0, .int .i64 0] 53).drewN nq)))) rfl ⟨.slice none 0 0, ret_tk hwh.out hrs.out hre.out, digs_zero _ (by rw [hmt.out]; rfl) _ _, below4 (below_drewN ((Below.refl _ _).alloc (Nat.le_refl _) _) nq) (Nat.le_refl _) _ _ _ _⟩

set_option maxRecDepth 100000 in
set_option maxHeartbeats 4000000 in
theorem taken_8_4 (a : Int) (hv : okB 64 a = true) (c : cls 53 (siz 64 a) = 4) (w : World) : Calls Tryd.prog 52 #[.int .i64 8, .int .i64 a] w (Taken 64 53 a w) := by
  have hc := fc_8 a
  obtain ⟨q1, q2⟩ := hc.2.1 c
  obtain ⟨b0, b1, b2, b3⟩ := fb_8 a
  have t0 : (siz 64 a / 4503599627370496 == 2047) = true := by simp; omega
  have t2 : (siz 64 a % 4503599627370496 == 0) = false := by simp; omega
  have hwh := Lib.hid (show whS (cls 53 (siz 64 a)) = whS 4 by rw [c])
  have hrs := Lib.hid (show rS 64 53 a = 0 by unfold rS; rw [if_pos c])
  have hmt := Lib.hid (show mant 53 (siz 64 a) = 0 by unfold mant; rw [if_neg (by omega), if_neg (by omega)])
  have hre := Lib.hid (show rE 53 (siz 64 a) = 0 by unfold rE; rw [if_neg (by omega)])
  have g1 := f1_8 a
  have g2 := f2_8 a
  have g3 := f3_8 a hv
  have hs01 : 0 ≤ sgn 64 a ∧ sgn 64 a ≤ 1 := by have := sgn_s 64 a; unfold Sgn at this; omega
  obtain ⟨s0, s1⟩ := hs01
  clear hc c hv q1 q2
  go_enter Tryd.func52, Tryd.ntmps52
  go_wp2_with (first | go_in | fail)
  go_quiet (fail)
  go_wp2
  refine bodyPost_ret (res52 _ w.heap.size _ _ _ _ _ rfl (Has.set4' (.string ⟨#[110, 111, 110, 101]⟩) (.int .i64 0) (.slice none 0 0) (.int .i64 0) (((Has.new w [.string ⟨#[]⟩, .int .i64 0, .slice none 0 0, .int .i64 0] 53).drewN nq)))) rfl ⟨.slice none 0 0, ret_tk hwh.out hrs.out hre.out, digs_zero _ (by rw [hmt.out]; rfl) _ _, below4 (below_drewN ((Below.refl _ _).alloc (Nat.le_refl _) _) nq) (Nat.le_refl _) _ _ _ _⟩

theorem taken_c (k W D E a : Int) (hk : KK k W D E) (hv : okB W a = true) (w : World) : Calls Tryd.prog 52 #[.int .i64 k, .int .i64 a] w (Taken W D a w) := by
  have hb := cls_nn D (siz W a)
  have hc : cls D (siz W a) = 0 ∨ cls D (siz W a) = 1 ∨ cls D (siz W a) = 2 ∨ cls D (siz W a) = 3 ∨ cls D (siz W a) = 4 := by omega
  rcases hk with ⟨rfl, rfl, rfl, rfl⟩ | ⟨rfl, rfl, rfl, rfl⟩ | ⟨rfl, rfl, rfl, rfl⟩ <;> rcases hc with c | c | c | c | c
  · exact taken_2_0 a hv c w
  · exact taken_2_1 a hv c w
  · exact taken_2_2 a hv c w
  · exact taken_2_3 a hv c w
  · exact taken_2_4 a hv c w
  · exact taken_4_0 a hv c w
  · exact taken_4_1 a hv c w
  · exact taken_4_2 a hv c w
  · exact taken_4_3 a hv c w
  · exact taken_4_4 a hv c w
  · exact taken_8_0 a hv c w
  · exact taken_8_1 a hv c w
  · exact taken_8_2 a hv c w
  · exact taken_8_3 a hv c w
  · exact taken_8_4 a hv c w
end Go.Proofs.YtfdenbgmogojeaaDoor

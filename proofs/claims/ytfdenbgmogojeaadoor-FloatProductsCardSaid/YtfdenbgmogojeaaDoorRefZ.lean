/- Contracts of quadratref01's Mul and Div where nothing is reckoned, and of finite floats; premises as written. -/
import Derived.Test.YtfdenbgmogojeaaDoorRefS
import Derived.Test.YtfdenbgmogojeaaDoorRefY
import Derived.Test.YtfdenbgmogojeaaDoorFloMd
import Derived.Deep.DeepCutAuto
namespace Go.Proofs.YtfdenbgmogojeaaDoor
open Go.RowKit

/-- What the document takes of a float, as numbers. -/
def Tq (k a : Int) (wx : ByteArray) (s : Int) (M : Nat) (ex : Int) : Prop :=
  ∀ w, Calls Tryd.prog 52 #[.int .i64 k, .int .i64 a] w fun e w' => ∃ p c, e = .returned (.agg #[.string wx, .int .i64 s, .slice p (bl M) c, .int .i64 ex]) ∧ RN w' (.slice p (bl M) c) (bl M) M ∧ Below w.heap.size w w'
theorem tq_of (k W D E a : Int) (hk : KK k W D E) (hv : okB W a = true) (wx : ByteArray) (hw : whS (cls D (siz W a)) = wx) : Tq k a wx (rS W D a) (mant D (siz W a)).toNat (rE D (siz W a)) := fun w => by
  subst hw
  refine (taken_c k W D E a hk hv w).mono ?_
  rintro e w' ⟨v, rfl, hown, hb⟩
  have hr := RN.of hown
  obtain ⟨p, c, rfl⟩ := hr.slice
  exact ⟨p, c, rfl, hr, hb⟩
theorem sgX_p (sx sy : Int) (hx : Sgn sx) (hy : Sgn sy) : (sx + sy) % 2 = sgX sx sy ∧ (sx + sy).tmod 2 = sgX sx sy := by
  rcases hx with rfl | rfl <;> rcases hy with rfl | rfl <;> exact ⟨rfl, rfl⟩
/-- The memory, and the numbers of two boxes. -/
def SM (w w' : World) (u v : Value) (LA A LB B : Nat) : Prop := Below w.heap.size w w' ∧ RN w' u LA A ∧ RN w' v LB B
theorem sm_keep {w wp w' : World} {P Q : Nat} {a b c d e f u v : Value} {LA A LB B : Nat} (h : SM w wp u v LA A LB B ∧ wp.cell? ⟨P, 1, none⟩ = some a ∧ wp.cell? ⟨P, 2, none⟩ = some b ∧ wp.cell? ⟨P, 3, none⟩ = some c ∧ wp.cell? ⟨Q, 1, none⟩ = some d ∧ wp.cell? ⟨Q, 2, none⟩ = some e ∧ wp.cell? ⟨Q, 3, none⟩ = some f) (hb : Below wp.heap.size wp w') :
    SM w w' u v LA A LB B ∧ w'.cell? ⟨P, 1, none⟩ = some a ∧ w'.cell? ⟨P, 2, none⟩ = some b ∧ w'.cell? ⟨P, 3, none⟩ = some c ∧ w'.cell? ⟨Q, 1, none⟩ = some d ∧ w'.cell? ⟨Q, 2, none⟩ = some e ∧ w'.cell? ⟨Q, 3, none⟩ = some f := by
  obtain ⟨⟨h0, r1, r2⟩, h1, h2, h3, h4, h5, h6⟩ := h
  exact ⟨⟨bt h0 hb, r1.keep hb, r2.keep hb⟩, ck hb h1, ck hb h2, ck hb h3, ck hb h4, ck hb h5, ck hb h6⟩
theorem sm_drew {w wp : World} {P Q : Nat} {a b c d e f u v : Value} {LA A LB B : Nat} (h : SM w wp u v LA A LB B ∧ wp.cell? ⟨P, 1, none⟩ = some a ∧ wp.cell? ⟨P, 2, none⟩ = some b ∧ wp.cell? ⟨P, 3, none⟩ = some c ∧ wp.cell? ⟨Q, 1, none⟩ = some d ∧ wp.cell? ⟨Q, 2, none⟩ = some e ∧ wp.cell? ⟨Q, 3, none⟩ = some f) :
    SM w wp.drew u v LA A LB B ∧ wp.drew.cell? ⟨P, 1, none⟩ = some a ∧ wp.drew.cell? ⟨P, 2, none⟩ = some b ∧ wp.drew.cell? ⟨P, 3, none⟩ = some c ∧ wp.drew.cell? ⟨Q, 1, none⟩ = some d ∧ wp.drew.cell? ⟨Q, 2, none⟩ = some e ∧ wp.drew.cell? ⟨Q, 3, none⟩ = some f :=
  ⟨⟨h.1.1.drew, h.1.2.1, h.1.2.2⟩, h.2⟩

theorem sm_x {w w' : World} {u v : Value} {LA A LB B : Nat} {R : Prop} (h : SM w w' u v LA A LB B ∧ R) : RN w' u LA A := h.1.2.1
theorem sm_y {w w' : World} {u v : Value} {LA A LB B : Nat} {R : Prop} (h : SM w w' u v LA A LB B ∧ R) : RN w' v LB B := h.1.2.2
theorem RN.drewn {w : World} {v : Value} {L M : Nat} (h : RN w v L M) : RN w.drew v L M := h

set_option maxRecDepth 100000 in
set_option maxHeartbeats 4000000 in
theorem rMul_n (k W D E mode a b : Int) (wy : ByteArray) (sx sy ex ey : Int) (X Y : Nat) (hk : KK k W D E) (hq : ∀ w, Calls Tryd.prog 51 #[.int .i64 k, .int .i64 mode, .int .i64 a, .int .i64 b] w fun e w' => e = .returned (.bool true) ∧ w = w')
    (hx : Tq k a ⟨#[110, 111, 110, 101]⟩ sx X ex) (hy : Tq k b wy sy Y ey) (hsx : Sgn sx) (hsy : Sgn sy) (w : World) :
    Calls Tryd.prog 21 #[.int .i64 k, .int .i64 mode, .int .i64 a, .int .i64 b] w fun e w' => e = .returned (.tuple #[.int .i64 (jn W 0 (qz D)), .int .i64 0, .int .i64 0]) ∧ Below w.heap.size w w' := by
  have Hk := Lib.hid hk; clear hk
  have Hq := Lib.hid hq; clear hq
  have Hx := Lib.hid hx; clear hx
  have Hy := Lib.hid hy; clear hy
  have hsg := sgX_s sx sy
  have ep := sgX_p sx sy hsx hsy
  generalize sgX sx sy = sg at *
  have Hsg := Lib.hid hsg; clear hsg
  obtain ⟨ep1, ep2⟩ := ep
  have sx0 : 0 ≤ sx := by unfold Sgn at hsx; omega
  have sx1 : sx ≤ 1 := by unfold Sgn at hsx; omega
  have sy0 : 0 ≤ sy := by unfold Sgn at hsy; omega
  have sy1 : sy ≤ 1 := by unfold Sgn at hsy; omega
  have Hsx := Lib.hid hsx; clear hsx
  have Hsy := Lib.hid hsy; clear hsy
  go_enter Tryd.func21, Tryd.ntmps21
  go_wp2_with fail
  refine (Hq.out _).mono ?_
  rintro e w0 ⟨rfl, rfl⟩
  go_wp2_with fail
  refine (Hx.out _).mono ?_
  rintro e w1 ⟨px, cx, rfl, rx, hB⟩
  go_wp2_with fail
  refine (Hy.out _).mono ?_
  rintro e w2 ⟨py, cy, rfl, ry, hb⟩
  have rx := rx.keep hb
  have hB := bt hB hb
  have hbb : Below w2.heap.size w2 ((w2.alloc (.cells (List.toArray [.string ⟨#[110, 111, 110, 101]⟩, .int .i64 sx, .slice px (bl X) cx, .int .i64 ex]) 53)).alloc (.cells (List.toArray [.string wy, .int .i64 sy, .slice py (bl Y) cy, .int .i64 ey]) 53)) := by go_grown
  have rx := rx.keep hbb
  have ry := ry.keep hbb
  have hB := bt hB hbb
  have hX := (Has.new w2 [.string ⟨#[110, 111, 110, 101]⟩, .int .i64 sx, .slice px (bl X) cx, .int .i64 ex] 53).alloc (.cells (List.toArray [.string wy, .int .i64 sy, .slice py (bl Y) cy, .int .i64 ey]) 53)
  have hY := Has.new1 w2 (.cells (List.toArray [.string ⟨#[110, 111, 110, 101]⟩, .int .i64 sx, .slice px (bl X) cx, .int .i64 ex]) 53) [.string wy, .int .i64 sy, .slice py (bl Y) cy, .int .i64 ey] 53
  obtain ⟨x0, x1, x2, x3⟩ := hX.c4
  obtain ⟨y0, y1, y2, y3⟩ := hY.c4
  clear hb hbb
  go_wp2_with fail
  refine (rQuiet_c k W D E Hk.out _).mono ?_
  rintro e w3 ⟨rfl, hb⟩
  have hB := bt hB hb
  go_wp2_with fail
  go_ret3
  exact ⟨rfl, hB⟩

set_option maxRecDepth 100000 in
set_option maxHeartbeats 4000000 in
theorem rMul_in (k W D E mode a b : Int)  (sx sy ex ey : Int) (X Y : Nat) (hk : KK k W D E) (hq : ∀ w, Calls Tryd.prog 51 #[.int .i64 k, .int .i64 mode, .int .i64 a, .int .i64 b] w fun e w' => e = .returned (.bool true) ∧ w = w')
    (hx : Tq k a ⟨#[105, 110, 102, 105, 110, 105, 116, 101]⟩ sx X ex) (hy : Tq k b ⟨#[110, 111, 110, 101]⟩ sy Y ey) (hsx : Sgn sx) (hsy : Sgn sy) (w : World) :
    Calls Tryd.prog 21 #[.int .i64 k, .int .i64 mode, .int .i64 a, .int .i64 b] w fun e w' => e = .returned (.tuple #[.int .i64 (jn W 0 (qz D)), .int .i64 0, .int .i64 0]) ∧ Below w.heap.size w w' := by
  have Hk := Lib.hid hk; clear hk
  have Hq := Lib.hid hq; clear hq
  have Hx := Lib.hid hx; clear hx
  have Hy := Lib.hid hy; clear hy
  have hsg := sgX_s sx sy
  have ep := sgX_p sx sy hsx hsy
  generalize sgX sx sy = sg at *
  have Hsg := Lib.hid hsg; clear hsg
  obtain ⟨ep1, ep2⟩ := ep
  have sx0 : 0 ≤ sx := by unfold Sgn at hsx; omega
  have sx1 : sx ≤ 1 := by unfold Sgn at hsx; omega
  have sy0 : 0 ≤ sy := by unfold Sgn at hsy; omega
  have sy1 : sy ≤ 1 := by unfold Sgn at hsy; omega
  have Hsx := Lib.hid hsx; clear hsx
  have Hsy := Lib.hid hsy; clear hsy
  go_enter Tryd.func21, Tryd.ntmps21
  go_wp2_with fail
  refine (Hq.out _).mono ?_
  rintro e w0 ⟨rfl, rfl⟩
  go_wp2_with fail
  refine (Hx.out _).mono ?_
  rintro e w1 ⟨px, cx, rfl, rx, hB⟩
  go_wp2_with fail
  refine (Hy.out _).mono ?_
  rintro e w2 ⟨py, cy, rfl, ry, hb⟩
  have rx := rx.keep hb
  have hB := bt hB hb
  have hbb : Below w2.heap.size w2 ((w2.alloc (.cells (List.toArray [.string ⟨#[105, 110, 102, 105, 110, 105, 116, 101]⟩, .int .i64 sx, .slice px (bl X) cx, .int .i64 ex]) 53)).alloc (.cells (List.toArray [.string ⟨#[110, 111, 110, 101]⟩, .int .i64 sy, .slice py (bl Y) cy, .int .i64 ey]) 53)) := by go_grown
  have rx := rx.keep hbb
  have ry := ry.keep hbb
  have hB := bt hB hbb
  have hX := (Has.new w2 [.string ⟨#[105, 110, 102, 105, 110, 105, 116, 101]⟩, .int .i64 sx, .slice px (bl X) cx, .int .i64 ex] 53).alloc (.cells (List.toArray [.string ⟨#[110, 111, 110, 101]⟩, .int .i64 sy, .slice py (bl Y) cy, .int .i64 ey]) 53)
  have hY := Has.new1 w2 (.cells (List.toArray [.string ⟨#[105, 110, 102, 105, 110, 105, 116, 101]⟩, .int .i64 sx, .slice px (bl X) cx, .int .i64 ex]) 53) [.string ⟨#[110, 111, 110, 101]⟩, .int .i64 sy, .slice py (bl Y) cy, .int .i64 ey] 53
  obtain ⟨x0, x1, x2, x3⟩ := hX.c4
  obtain ⟨y0, y1, y2, y3⟩ := hY.c4
  clear hb hbb
  go_wp2_with fail
  refine (rQuiet_c k W D E Hk.out _).mono ?_
  rintro e w3 ⟨rfl, hb⟩
  have hB := bt hB hb
  go_wp2_with fail
  go_ret3
  exact ⟨rfl, hB⟩

set_option maxRecDepth 100000 in
set_option maxHeartbeats 4000000 in
theorem rMul_zn (k W D E mode a b : Int)  (sx sy ex ey : Int) (X Y : Nat) (hk : KK k W D E) (hq : ∀ w, Calls Tryd.prog 51 #[.int .i64 k, .int .i64 mode, .int .i64 a, .int .i64 b] w fun e w' => e = .returned (.bool true) ∧ w = w')
    (hx : Tq k a ⟨#[122, 101, 114, 111]⟩ sx X ex) (hy : Tq k b ⟨#[110, 111, 110, 101]⟩ sy Y ey) (hsx : Sgn sx) (hsy : Sgn sy) (w : World) :
    Calls Tryd.prog 21 #[.int .i64 k, .int .i64 mode, .int .i64 a, .int .i64 b] w fun e w' => e = .returned (.tuple #[.int .i64 (jn W 0 (qz D)), .int .i64 0, .int .i64 0]) ∧ Below w.heap.size w w' := by
  have Hk := Lib.hid hk; clear hk
  have Hq := Lib.hid hq; clear hq
  have Hx := Lib.hid hx; clear hx
  have Hy := Lib.hid hy; clear hy
  have hsg := sgX_s sx sy
  have ep := sgX_p sx sy hsx hsy
  generalize sgX sx sy = sg at *
  have Hsg := Lib.hid hsg; clear hsg
  obtain ⟨ep1, ep2⟩ := ep
  have sx0 : 0 ≤ sx := by unfold Sgn at hsx; omega
  have sx1 : sx ≤ 1 := by unfold Sgn at hsx; omega
  have sy0 : 0 ≤ sy := by unfold Sgn at hsy; omega
  have sy1 : sy ≤ 1 := by unfold Sgn at hsy; omega
  have Hsx := Lib.hid hsx; clear hsx
  have Hsy := Lib.hid hsy; clear hsy
  go_enter Tryd.func21, Tryd.ntmps21
  go_wp2_with fail
  refine (Hq.out _).mono ?_
  rintro e w0 ⟨rfl, rfl⟩
  go_wp2_with fail
  refine (Hx.out _).mono ?_
  rintro e w1 ⟨px, cx, rfl, rx, hB⟩
  go_wp2_with fail
  refine (Hy.out _).mono ?_
  rintro e w2 ⟨py, cy, rfl, ry, hb⟩
  have rx := rx.keep hb
  have hB := bt hB hb
  have hbb : Below w2.heap.size w2 ((w2.alloc (.cells (List.toArray [.string ⟨#[122, 101, 114, 111]⟩, .int .i64 sx, .slice px (bl X) cx, .int .i64 ex]) 53)).alloc (.cells (List.toArray [.string ⟨#[110, 111, 110, 101]⟩, .int .i64 sy, .slice py (bl Y) cy, .int .i64 ey]) 53)) := by go_grown
  have rx := rx.keep hbb
  have ry := ry.keep hbb
  have hB := bt hB hbb
  have hX := (Has.new w2 [.string ⟨#[122, 101, 114, 111]⟩, .int .i64 sx, .slice px (bl X) cx, .int .i64 ex] 53).alloc (.cells (List.toArray [.string ⟨#[110, 111, 110, 101]⟩, .int .i64 sy, .slice py (bl Y) cy, .int .i64 ey]) 53)
  have hY := Has.new1 w2 (.cells (List.toArray [.string ⟨#[122, 101, 114, 111]⟩, .int .i64 sx, .slice px (bl X) cx, .int .i64 ex]) 53) [.string ⟨#[110, 111, 110, 101]⟩, .int .i64 sy, .slice py (bl Y) cy, .int .i64 ey] 53
  obtain ⟨x0, x1, x2, x3⟩ := hX.c4
  obtain ⟨y0, y1, y2, y3⟩ := hY.c4
  clear hb hbb
  go_wp2_with fail
  refine (rQuiet_c k W D E Hk.out _).mono ?_
  rintro e w3 ⟨rfl, hb⟩
  have hB := bt hB hb
  go_wp2_with fail
  go_ret3
  exact ⟨rfl, hB⟩

set_option maxRecDepth 100000 in
set_option maxHeartbeats 4000000 in
theorem rMul_fn (k W D E mode a b : Int)  (sx sy ex ey : Int) (X Y : Nat) (hk : KK k W D E) (hq : ∀ w, Calls Tryd.prog 51 #[.int .i64 k, .int .i64 mode, .int .i64 a, .int .i64 b] w fun e w' => e = .returned (.bool true) ∧ w = w')
    (hx : Tq k a ⟨#[102, 105, 110, 105, 116, 101]⟩ sx X ex) (hy : Tq k b ⟨#[110, 111, 110, 101]⟩ sy Y ey) (hsx : Sgn sx) (hsy : Sgn sy) (w : World) :
    Calls Tryd.prog 21 #[.int .i64 k, .int .i64 mode, .int .i64 a, .int .i64 b] w fun e w' => e = .returned (.tuple #[.int .i64 (jn W 0 (qz D)), .int .i64 0, .int .i64 0]) ∧ Below w.heap.size w w' := by
  have Hk := Lib.hid hk; clear hk
  have Hq := Lib.hid hq; clear hq
  have Hx := Lib.hid hx; clear hx
  have Hy := Lib.hid hy; clear hy
  have hsg := sgX_s sx sy
  have ep := sgX_p sx sy hsx hsy
  generalize sgX sx sy = sg at *
  have Hsg := Lib.hid hsg; clear hsg
  obtain ⟨ep1, ep2⟩ := ep
  have sx0 : 0 ≤ sx := by unfold Sgn at hsx; omega
  have sx1 : sx ≤ 1 := by unfold Sgn at hsx; omega
  have sy0 : 0 ≤ sy := by unfold Sgn at hsy; omega
  have sy1 : sy ≤ 1 := by unfold Sgn at hsy; omega
  have Hsx := Lib.hid hsx; clear hsx
  have Hsy := Lib.hid hsy; clear hsy
  go_enter Tryd.func21, Tryd.ntmps21
  go_wp2_with fail
  refine (Hq.out _).mono ?_
  rintro e w0 ⟨rfl, rfl⟩
  go_wp2_with fail
  refine (Hx.out _).mono ?_
  rintro e w1 ⟨px, cx, rfl, rx, hB⟩
  go_wp2_with fail
  refine (Hy.out _).mono ?_
  rintro e w2 ⟨py, cy, rfl, ry, hb⟩
  have rx := rx.keep hb
  have hB := bt hB hb
  have hbb : Below w2.heap.size w2 ((w2.alloc (.cells (List.toArray [.string ⟨#[102, 105, 110, 105, 116, 101]⟩, .int .i64 sx, .slice px (bl X) cx, .int .i64 ex]) 53)).alloc (.cells (List.toArray [.string ⟨#[110, 111, 110, 101]⟩, .int .i64 sy, .slice py (bl Y) cy, .int .i64 ey]) 53)) := by go_grown
  have rx := rx.keep hbb
  have ry := ry.keep hbb
  have hB := bt hB hbb
  have hX := (Has.new w2 [.string ⟨#[102, 105, 110, 105, 116, 101]⟩, .int .i64 sx, .slice px (bl X) cx, .int .i64 ex] 53).alloc (.cells (List.toArray [.string ⟨#[110, 111, 110, 101]⟩, .int .i64 sy, .slice py (bl Y) cy, .int .i64 ey]) 53)
  have hY := Has.new1 w2 (.cells (List.toArray [.string ⟨#[102, 105, 110, 105, 116, 101]⟩, .int .i64 sx, .slice px (bl X) cx, .int .i64 ex]) 53) [.string ⟨#[110, 111, 110, 101]⟩, .int .i64 sy, .slice py (bl Y) cy, .int .i64 ey] 53
  obtain ⟨x0, x1, x2, x3⟩ := hX.c4
  obtain ⟨y0, y1, y2, y3⟩ := hY.c4
  clear hb hbb
  go_wp2_with fail
  refine (rQuiet_c k W D E Hk.out _).mono ?_
  rintro e w3 ⟨rfl, hb⟩
  have hB := bt hB hb
  go_wp2_with fail
  go_ret3
  exact ⟨rfl, hB⟩

set_option maxRecDepth 100000 in
set_option maxHeartbeats 4000000 in
theorem rDiv_n (k W D E mode a b : Int) (wy : ByteArray) (sx sy ex ey : Int) (X Y : Nat) (hk : KK k W D E) (hq : ∀ w, Calls Tryd.prog 51 #[.int .i64 k, .int .i64 mode, .int .i64 a, .int .i64 b] w fun e w' => e = .returned (.bool true) ∧ w = w')
    (hx : Tq k a ⟨#[110, 111, 110, 101]⟩ sx X ex) (hy : Tq k b wy sy Y ey) (hsx : Sgn sx) (hsy : Sgn sy) (w : World) :
    Calls Tryd.prog 23 #[.int .i64 k, .int .i64 mode, .int .i64 a, .int .i64 b] w fun e w' => e = .returned (.tuple #[.int .i64 (jn W 0 (qz D)), .int .i64 0, .int .i64 0]) ∧ Below w.heap.size w w' := by
  have Hk := Lib.hid hk; clear hk
  have Hq := Lib.hid hq; clear hq
  have Hx := Lib.hid hx; clear hx
  have Hy := Lib.hid hy; clear hy
  have hsg := sgX_s sx sy
  have ep := sgX_p sx sy hsx hsy
  generalize sgX sx sy = sg at *
  have Hsg := Lib.hid hsg; clear hsg
  obtain ⟨ep1, ep2⟩ := ep
  have sx0 : 0 ≤ sx := by unfold Sgn at hsx; omega
  have sx1 : sx ≤ 1 := by unfold Sgn at hsx; omega
  have sy0 : 0 ≤ sy := by unfold Sgn at hsy; omega
  have sy1 : sy ≤ 1 := by unfold Sgn at hsy; omega
  have Hsx := Lib.hid hsx; clear hsx
  have Hsy := Lib.hid hsy; clear hsy
  go_enter Tryd.func23, Tryd.ntmps23
  go_wp2_with fail
  refine (Hq.out _).mono ?_
  rintro e w0 ⟨rfl, rfl⟩
  go_wp2_with fail
  refine (Hx.out _).mono ?_
  rintro e w1 ⟨px, cx, rfl, rx, hB⟩
  go_wp2_with fail
  refine (Hy.out _).mono ?_
  rintro e w2 ⟨py, cy, rfl, ry, hb⟩
  have rx := rx.keep hb
  have hB := bt hB hb
  have hbb : Below w2.heap.size w2 ((w2.alloc (.cells (List.toArray [.string ⟨#[110, 111, 110, 101]⟩, .int .i64 sx, .slice px (bl X) cx, .int .i64 ex]) 53)).alloc (.cells (List.toArray [.string wy, .int .i64 sy, .slice py (bl Y) cy, .int .i64 ey]) 53)) := by go_grown
  have rx := rx.keep hbb
  have ry := ry.keep hbb
  have hB := bt hB hbb
  have hX := (Has.new w2 [.string ⟨#[110, 111, 110, 101]⟩, .int .i64 sx, .slice px (bl X) cx, .int .i64 ex] 53).alloc (.cells (List.toArray [.string wy, .int .i64 sy, .slice py (bl Y) cy, .int .i64 ey]) 53)
  have hY := Has.new1 w2 (.cells (List.toArray [.string ⟨#[110, 111, 110, 101]⟩, .int .i64 sx, .slice px (bl X) cx, .int .i64 ex]) 53) [.string wy, .int .i64 sy, .slice py (bl Y) cy, .int .i64 ey] 53
  obtain ⟨x0, x1, x2, x3⟩ := hX.c4
  obtain ⟨y0, y1, y2, y3⟩ := hY.c4
  clear hb hbb
  go_wp2_with fail
  refine (rQuiet_c k W D E Hk.out _).mono ?_
  rintro e w3 ⟨rfl, hb⟩
  have hB := bt hB hb
  go_wp2_with fail
  go_ret3
  exact ⟨rfl, hB⟩

set_option maxRecDepth 100000 in
set_option maxHeartbeats 4000000 in
theorem rDiv_in (k W D E mode a b : Int)  (sx sy ex ey : Int) (X Y : Nat) (hk : KK k W D E) (hq : ∀ w, Calls Tryd.prog 51 #[.int .i64 k, .int .i64 mode, .int .i64 a, .int .i64 b] w fun e w' => e = .returned (.bool true) ∧ w = w')
    (hx : Tq k a ⟨#[105, 110, 102, 105, 110, 105, 116, 101]⟩ sx X ex) (hy : Tq k b ⟨#[110, 111, 110, 101]⟩ sy Y ey) (hsx : Sgn sx) (hsy : Sgn sy) (w : World) :
    Calls Tryd.prog 23 #[.int .i64 k, .int .i64 mode, .int .i64 a, .int .i64 b] w fun e w' => e = .returned (.tuple #[.int .i64 (jn W 0 (qz D)), .int .i64 0, .int .i64 0]) ∧ Below w.heap.size w w' := by
  have Hk := Lib.hid hk; clear hk
  have Hq := Lib.hid hq; clear hq
  have Hx := Lib.hid hx; clear hx
  have Hy := Lib.hid hy; clear hy
  have hsg := sgX_s sx sy
  have ep := sgX_p sx sy hsx hsy
  generalize sgX sx sy = sg at *
  have Hsg := Lib.hid hsg; clear hsg
  obtain ⟨ep1, ep2⟩ := ep
  have sx0 : 0 ≤ sx := by unfold Sgn at hsx; omega
  have sx1 : sx ≤ 1 := by unfold Sgn at hsx; omega
  have sy0 : 0 ≤ sy := by unfold Sgn at hsy; omega
  have sy1 : sy ≤ 1 := by unfold Sgn at hsy; omega
  have Hsx := Lib.hid hsx; clear hsx
  have Hsy := Lib.hid hsy; clear hsy
  go_enter Tryd.func23, Tryd.ntmps23
  go_wp2_with fail
  refine (Hq.out _).mono ?_
  rintro e w0 ⟨rfl, rfl⟩
  go_wp2_with fail
  refine (Hx.out _).mono ?_
  rintro e w1 ⟨px, cx, rfl, rx, hB⟩
  go_wp2_with fail
  refine (Hy.out _).mono ?_
  rintro e w2 ⟨py, cy, rfl, ry, hb⟩
  have rx := rx.keep hb
  have hB := bt hB hb
  have hbb : Below w2.heap.size w2 ((w2.alloc (.cells (List.toArray [.string ⟨#[105, 110, 102, 105, 110, 105, 116, 101]⟩, .int .i64 sx, .slice px (bl X) cx, .int .i64 ex]) 53)).alloc (.cells (List.toArray [.string ⟨#[110, 111, 110, 101]⟩, .int .i64 sy, .slice py (bl Y) cy, .int .i64 ey]) 53)) := by go_grown
  have rx := rx.keep hbb
  have ry := ry.keep hbb
  have hB := bt hB hbb
  have hX := (Has.new w2 [.string ⟨#[105, 110, 102, 105, 110, 105, 116, 101]⟩, .int .i64 sx, .slice px (bl X) cx, .int .i64 ex] 53).alloc (.cells (List.toArray [.string ⟨#[110, 111, 110, 101]⟩, .int .i64 sy, .slice py (bl Y) cy, .int .i64 ey]) 53)
  have hY := Has.new1 w2 (.cells (List.toArray [.string ⟨#[105, 110, 102, 105, 110, 105, 116, 101]⟩, .int .i64 sx, .slice px (bl X) cx, .int .i64 ex]) 53) [.string ⟨#[110, 111, 110, 101]⟩, .int .i64 sy, .slice py (bl Y) cy, .int .i64 ey] 53
  obtain ⟨x0, x1, x2, x3⟩ := hX.c4
  obtain ⟨y0, y1, y2, y3⟩ := hY.c4
  clear hb hbb
  go_wp2_with fail
  refine (rQuiet_c k W D E Hk.out _).mono ?_
  rintro e w3 ⟨rfl, hb⟩
  have hB := bt hB hb
  go_wp2_with fail
  go_ret3
  exact ⟨rfl, hB⟩

set_option maxRecDepth 100000 in
set_option maxHeartbeats 4000000 in
theorem rDiv_zn (k W D E mode a b : Int)  (sx sy ex ey : Int) (X Y : Nat) (hk : KK k W D E) (hq : ∀ w, Calls Tryd.prog 51 #[.int .i64 k, .int .i64 mode, .int .i64 a, .int .i64 b] w fun e w' => e = .returned (.bool true) ∧ w = w')
    (hx : Tq k a ⟨#[122, 101, 114, 111]⟩ sx X ex) (hy : Tq k b ⟨#[110, 111, 110, 101]⟩ sy Y ey) (hsx : Sgn sx) (hsy : Sgn sy) (w : World) :
    Calls Tryd.prog 23 #[.int .i64 k, .int .i64 mode, .int .i64 a, .int .i64 b] w fun e w' => e = .returned (.tuple #[.int .i64 (jn W 0 (qz D)), .int .i64 0, .int .i64 0]) ∧ Below w.heap.size w w' := by
  have Hk := Lib.hid hk; clear hk
  have Hq := Lib.hid hq; clear hq
  have Hx := Lib.hid hx; clear hx
  have Hy := Lib.hid hy; clear hy
  have hsg := sgX_s sx sy
  have ep := sgX_p sx sy hsx hsy
  generalize sgX sx sy = sg at *
  have Hsg := Lib.hid hsg; clear hsg
  obtain ⟨ep1, ep2⟩ := ep
  have sx0 : 0 ≤ sx := by unfold Sgn at hsx; omega
  have sx1 : sx ≤ 1 := by unfold Sgn at hsx; omega
  have sy0 : 0 ≤ sy := by unfold Sgn at hsy; omega
  have sy1 : sy ≤ 1 := by unfold Sgn at hsy; omega
  have Hsx := Lib.hid hsx; clear hsx
  have Hsy := Lib.hid hsy; clear hsy
  go_enter Tryd.func23, Tryd.ntmps23
  go_wp2_with fail
  refine (Hq.out _).mono ?_
  rintro e w0 ⟨rfl, rfl⟩
  go_wp2_with fail
  refine (Hx.out _).mono ?_
  rintro e w1 ⟨px, cx, rfl, rx, hB⟩
  go_wp2_with fail
  refine (Hy.out _).mono ?_
  rintro e w2 ⟨py, cy, rfl, ry, hb⟩
  have rx := rx.keep hb
  have hB := bt hB hb
  have hbb : Below w2.heap.size w2 ((w2.alloc (.cells (List.toArray [.string ⟨#[122, 101, 114, 111]⟩, .int .i64 sx, .slice px (bl X) cx, .int .i64 ex]) 53)).alloc (.cells (List.toArray [.string ⟨#[110, 111, 110, 101]⟩, .int .i64 sy, .slice py (bl Y) cy, .int .i64 ey]) 53)) := by go_grown
  have rx := rx.keep hbb
  have ry := ry.keep hbb
  have hB := bt hB hbb
  have hX := (Has.new w2 [.string ⟨#[122, 101, 114, 111]⟩, .int .i64 sx, .slice px (bl X) cx, .int .i64 ex] 53).alloc (.cells (List.toArray [.string ⟨#[110, 111, 110, 101]⟩, .int .i64 sy, .slice py (bl Y) cy, .int .i64 ey]) 53)
  have hY := Has.new1 w2 (.cells (List.toArray [.string ⟨#[122, 101, 114, 111]⟩, .int .i64 sx, .slice px (bl X) cx, .int .i64 ex]) 53) [.string ⟨#[110, 111, 110, 101]⟩, .int .i64 sy, .slice py (bl Y) cy, .int .i64 ey] 53
  obtain ⟨x0, x1, x2, x3⟩ := hX.c4
  obtain ⟨y0, y1, y2, y3⟩ := hY.c4
  clear hb hbb
  go_wp2_with fail
  refine (rQuiet_c k W D E Hk.out _).mono ?_
  rintro e w3 ⟨rfl, hb⟩
  have hB := bt hB hb
  go_wp2_with fail
  go_ret3
  exact ⟨rfl, hB⟩

set_option maxRecDepth 100000 in
set_option maxHeartbeats 4000000 in
theorem rDiv_fn (k W D E mode a b : Int)  (sx sy ex ey : Int) (X Y : Nat) (hk : KK k W D E) (hq : ∀ w, Calls Tryd.prog 51 #[.int .i64 k, .int .i64 mode, .int .i64 a, .int .i64 b] w fun e w' => e = .returned (.bool true) ∧ w = w')
    (hx : Tq k a ⟨#[102, 105, 110, 105, 116, 101]⟩ sx X ex) (hy : Tq k b ⟨#[110, 111, 110, 101]⟩ sy Y ey) (hsx : Sgn sx) (hsy : Sgn sy) (w : World) :
    Calls Tryd.prog 23 #[.int .i64 k, .int .i64 mode, .int .i64 a, .int .i64 b] w fun e w' => e = .returned (.tuple #[.int .i64 (jn W 0 (qz D)), .int .i64 0, .int .i64 0]) ∧ Below w.heap.size w w' := by
  have Hk := Lib.hid hk; clear hk
  have Hq := Lib.hid hq; clear hq
  have Hx := Lib.hid hx; clear hx
  have Hy := Lib.hid hy; clear hy
  have hsg := sgX_s sx sy
  have ep := sgX_p sx sy hsx hsy
  generalize sgX sx sy = sg at *
  have Hsg := Lib.hid hsg; clear hsg
  obtain ⟨ep1, ep2⟩ := ep
  have sx0 : 0 ≤ sx := by unfold Sgn at hsx; omega
  have sx1 : sx ≤ 1 := by unfold Sgn at hsx; omega
  have sy0 : 0 ≤ sy := by unfold Sgn at hsy; omega
  have sy1 : sy ≤ 1 := by unfold Sgn at hsy; omega
  have Hsx := Lib.hid hsx; clear hsx
  have Hsy := Lib.hid hsy; clear hsy
  go_enter Tryd.func23, Tryd.ntmps23
  go_wp2_with fail
  refine (Hq.out _).mono ?_
  rintro e w0 ⟨rfl, rfl⟩
  go_wp2_with fail
  refine (Hx.out _).mono ?_
  rintro e w1 ⟨px, cx, rfl, rx, hB⟩
  go_wp2_with fail
  refine (Hy.out _).mono ?_
  rintro e w2 ⟨py, cy, rfl, ry, hb⟩
  have rx := rx.keep hb
  have hB := bt hB hb
  have hbb : Below w2.heap.size w2 ((w2.alloc (.cells (List.toArray [.string ⟨#[102, 105, 110, 105, 116, 101]⟩, .int .i64 sx, .slice px (bl X) cx, .int .i64 ex]) 53)).alloc (.cells (List.toArray [.string ⟨#[110, 111, 110, 101]⟩, .int .i64 sy, .slice py (bl Y) cy, .int .i64 ey]) 53)) := by go_grown
  have rx := rx.keep hbb
  have ry := ry.keep hbb
  have hB := bt hB hbb
  have hX := (Has.new w2 [.string ⟨#[102, 105, 110, 105, 116, 101]⟩, .int .i64 sx, .slice px (bl X) cx, .int .i64 ex] 53).alloc (.cells (List.toArray [.string ⟨#[110, 111, 110, 101]⟩, .int .i64 sy, .slice py (bl Y) cy, .int .i64 ey]) 53)
  have hY := Has.new1 w2 (.cells (List.toArray [.string ⟨#[102, 105, 110, 105, 116, 101]⟩, .int .i64 sx, .slice px (bl X) cx, .int .i64 ex]) 53) [.string ⟨#[110, 111, 110, 101]⟩, .int .i64 sy, .slice py (bl Y) cy, .int .i64 ey] 53
  obtain ⟨x0, x1, x2, x3⟩ := hX.c4
  obtain ⟨y0, y1, y2, y3⟩ := hY.c4
  clear hb hbb
  go_wp2_with fail
  refine (rQuiet_c k W D E Hk.out _).mono ?_
  rintro e w3 ⟨rfl, hb⟩
  have hB := bt hB hb
  go_wp2_with fail
  go_ret3
  exact ⟨rfl, hB⟩

set_option maxRecDepth 100000 in
set_option maxHeartbeats 4000000 in
theorem rMul_iz (k W D E mode a b : Int)  (sx sy ex ey : Int) (X Y : Nat) (hk : KK k W D E) (hq : ∀ w, Calls Tryd.prog 51 #[.int .i64 k, .int .i64 mode, .int .i64 a, .int .i64 b] w fun e w' => e = .returned (.bool true) ∧ w = w')
    (hx : Tq k a ⟨#[105, 110, 102, 105, 110, 105, 116, 101]⟩ sx X ex) (hy : Tq k b ⟨#[122, 101, 114, 111]⟩ sy Y ey) (hsx : Sgn sx) (hsy : Sgn sy) (w : World) :
    Calls Tryd.prog 21 #[.int .i64 k, .int .i64 mode, .int .i64 a, .int .i64 b] w fun e w' => e = .returned (.tuple #[.int .i64 (jn W 0 (qz D)), .int .i64 1, .int .i64 0]) ∧ Below w.heap.size w w' := by
  have Hk := Lib.hid hk; clear hk
  have Hq := Lib.hid hq; clear hq
  have Hx := Lib.hid hx; clear hx
  have Hy := Lib.hid hy; clear hy
  have hsg := sgX_s sx sy
  have ep := sgX_p sx sy hsx hsy
  generalize sgX sx sy = sg at *
  have Hsg := Lib.hid hsg; clear hsg
  obtain ⟨ep1, ep2⟩ := ep
  have sx0 : 0 ≤ sx := by unfold Sgn at hsx; omega
  have sx1 : sx ≤ 1 := by unfold Sgn at hsx; omega
  have sy0 : 0 ≤ sy := by unfold Sgn at hsy; omega
  have sy1 : sy ≤ 1 := by unfold Sgn at hsy; omega
  have Hsx := Lib.hid hsx; clear hsx
  have Hsy := Lib.hid hsy; clear hsy
  go_enter Tryd.func21, Tryd.ntmps21
  go_wp2_with fail
  refine (Hq.out _).mono ?_
  rintro e w0 ⟨rfl, rfl⟩
  go_wp2_with fail
  refine (Hx.out _).mono ?_
  rintro e w1 ⟨px, cx, rfl, rx, hB⟩
  go_wp2_with fail
  refine (Hy.out _).mono ?_
  rintro e w2 ⟨py, cy, rfl, ry, hb⟩
  have rx := rx.keep hb
  have hB := bt hB hb
  have hbb : Below w2.heap.size w2 ((w2.alloc (.cells (List.toArray [.string ⟨#[105, 110, 102, 105, 110, 105, 116, 101]⟩, .int .i64 sx, .slice px (bl X) cx, .int .i64 ex]) 53)).alloc (.cells (List.toArray [.string ⟨#[122, 101, 114, 111]⟩, .int .i64 sy, .slice py (bl Y) cy, .int .i64 ey]) 53)) := by go_grown
  have rx := rx.keep hbb
  have ry := ry.keep hbb
  have hB := bt hB hbb
  have hX := (Has.new w2 [.string ⟨#[105, 110, 102, 105, 110, 105, 116, 101]⟩, .int .i64 sx, .slice px (bl X) cx, .int .i64 ex] 53).alloc (.cells (List.toArray [.string ⟨#[122, 101, 114, 111]⟩, .int .i64 sy, .slice py (bl Y) cy, .int .i64 ey]) 53)
  have hY := Has.new1 w2 (.cells (List.toArray [.string ⟨#[105, 110, 102, 105, 110, 105, 116, 101]⟩, .int .i64 sx, .slice px (bl X) cx, .int .i64 ex]) 53) [.string ⟨#[122, 101, 114, 111]⟩, .int .i64 sy, .slice py (bl Y) cy, .int .i64 ey] 53
  obtain ⟨x0, x1, x2, x3⟩ := hX.c4
  obtain ⟨y0, y1, y2, y3⟩ := hY.c4
  clear hb hbb
  go_wp2_with fail
  refine (rQuiet_c k W D E Hk.out _).mono ?_
  rintro e w3 ⟨rfl, hb⟩
  have hB := bt hB hb
  go_wp2_with fail
  go_ret3
  exact ⟨rfl, hB⟩

set_option maxRecDepth 100000 in
set_option maxHeartbeats 4000000 in
theorem rMul_zi (k W D E mode a b : Int)  (sx sy ex ey : Int) (X Y : Nat) (hk : KK k W D E) (hq : ∀ w, Calls Tryd.prog 51 #[.int .i64 k, .int .i64 mode, .int .i64 a, .int .i64 b] w fun e w' => e = .returned (.bool true) ∧ w = w')
    (hx : Tq k a ⟨#[122, 101, 114, 111]⟩ sx X ex) (hy : Tq k b ⟨#[105, 110, 102, 105, 110, 105, 116, 101]⟩ sy Y ey) (hsx : Sgn sx) (hsy : Sgn sy) (w : World) :
    Calls Tryd.prog 21 #[.int .i64 k, .int .i64 mode, .int .i64 a, .int .i64 b] w fun e w' => e = .returned (.tuple #[.int .i64 (jn W 0 (qz D)), .int .i64 1, .int .i64 0]) ∧ Below w.heap.size w w' := by
  have Hk := Lib.hid hk; clear hk
  have Hq := Lib.hid hq; clear hq
  have Hx := Lib.hid hx; clear hx
  have Hy := Lib.hid hy; clear hy
  have hsg := sgX_s sx sy
  have ep := sgX_p sx sy hsx hsy
  generalize sgX sx sy = sg at *
  have Hsg := Lib.hid hsg; clear hsg
  obtain ⟨ep1, ep2⟩ := ep
  have sx0 : 0 ≤ sx := by unfold Sgn at hsx; omega
  have sx1 : sx ≤ 1 := by unfold Sgn at hsx; omega
  have sy0 : 0 ≤ sy := by unfold Sgn at hsy; omega
  have sy1 : sy ≤ 1 := by unfold Sgn at hsy; omega
  have Hsx := Lib.hid hsx; clear hsx
  have Hsy := Lib.hid hsy; clear hsy
  go_enter Tryd.func21, Tryd.ntmps21
  go_wp2_with fail
  refine (Hq.out _).mono ?_
  rintro e w0 ⟨rfl, rfl⟩
  go_wp2_with fail
  refine (Hx.out _).mono ?_
  rintro e w1 ⟨px, cx, rfl, rx, hB⟩
  go_wp2_with fail
  refine (Hy.out _).mono ?_
  rintro e w2 ⟨py, cy, rfl, ry, hb⟩
  have rx := rx.keep hb
  have hB := bt hB hb
  have hbb : Below w2.heap.size w2 ((w2.alloc (.cells (List.toArray [.string ⟨#[122, 101, 114, 111]⟩, .int .i64 sx, .slice px (bl X) cx, .int .i64 ex]) 53)).alloc (.cells (List.toArray [.string ⟨#[105, 110, 102, 105, 110, 105, 116, 101]⟩, .int .i64 sy, .slice py (bl Y) cy, .int .i64 ey]) 53)) := by go_grown
  have rx := rx.keep hbb
  have ry := ry.keep hbb
  have hB := bt hB hbb
  have hX := (Has.new w2 [.string ⟨#[122, 101, 114, 111]⟩, .int .i64 sx, .slice px (bl X) cx, .int .i64 ex] 53).alloc (.cells (List.toArray [.string ⟨#[105, 110, 102, 105, 110, 105, 116, 101]⟩, .int .i64 sy, .slice py (bl Y) cy, .int .i64 ey]) 53)
  have hY := Has.new1 w2 (.cells (List.toArray [.string ⟨#[122, 101, 114, 111]⟩, .int .i64 sx, .slice px (bl X) cx, .int .i64 ex]) 53) [.string ⟨#[105, 110, 102, 105, 110, 105, 116, 101]⟩, .int .i64 sy, .slice py (bl Y) cy, .int .i64 ey] 53
  obtain ⟨x0, x1, x2, x3⟩ := hX.c4
  obtain ⟨y0, y1, y2, y3⟩ := hY.c4
  clear hb hbb
  go_wp2_with fail
  refine (rQuiet_c k W D E Hk.out _).mono ?_
  rintro e w3 ⟨rfl, hb⟩
  have hB := bt hB hb
  go_wp2_with fail
  go_ret3
  exact ⟨rfl, hB⟩

set_option maxRecDepth 100000 in
set_option maxHeartbeats 4000000 in
theorem rMul_ii (k W D E mode a b : Int)  (sx sy ex ey : Int) (X Y : Nat) (hk : KK k W D E) (hq : ∀ w, Calls Tryd.prog 51 #[.int .i64 k, .int .i64 mode, .int .i64 a, .int .i64 b] w fun e w' => e = .returned (.bool true) ∧ w = w')
    (hx : Tq k a ⟨#[105, 110, 102, 105, 110, 105, 116, 101]⟩ sx X ex) (hy : Tq k b ⟨#[105, 110, 102, 105, 110, 105, 116, 101]⟩ sy Y ey) (hsx : Sgn sx) (hsy : Sgn sy) (w : World) :
    Calls Tryd.prog 21 #[.int .i64 k, .int .i64 mode, .int .i64 a, .int .i64 b] w fun e w' => e = .returned (.tuple #[.int .i64 (jn W (sgX sx sy) (endl D)), .int .i64 0, .int .i64 0]) ∧ Below w.heap.size w w' := by
  have Hk := Lib.hid hk; clear hk
  have Hq := Lib.hid hq; clear hq
  have Hx := Lib.hid hx; clear hx
  have Hy := Lib.hid hy; clear hy
  have hsg := sgX_s sx sy
  have ep := sgX_p sx sy hsx hsy
  generalize sgX sx sy = sg at *
  have Hsg := Lib.hid hsg; clear hsg
  obtain ⟨ep1, ep2⟩ := ep
  have sx0 : 0 ≤ sx := by unfold Sgn at hsx; omega
  have sx1 : sx ≤ 1 := by unfold Sgn at hsx; omega
  have sy0 : 0 ≤ sy := by unfold Sgn at hsy; omega
  have sy1 : sy ≤ 1 := by unfold Sgn at hsy; omega
  have Hsx := Lib.hid hsx; clear hsx
  have Hsy := Lib.hid hsy; clear hsy
  go_enter Tryd.func21, Tryd.ntmps21
  go_wp2_with fail
  refine (Hq.out _).mono ?_
  rintro e w0 ⟨rfl, rfl⟩
  go_wp2_with fail
  refine (Hx.out _).mono ?_
  rintro e w1 ⟨px, cx, rfl, rx, hB⟩
  go_wp2_with fail
  refine (Hy.out _).mono ?_
  rintro e w2 ⟨py, cy, rfl, ry, hb⟩
  have rx := rx.keep hb
  have hB := bt hB hb
  have hbb : Below w2.heap.size w2 ((w2.alloc (.cells (List.toArray [.string ⟨#[105, 110, 102, 105, 110, 105, 116, 101]⟩, .int .i64 sx, .slice px (bl X) cx, .int .i64 ex]) 53)).alloc (.cells (List.toArray [.string ⟨#[105, 110, 102, 105, 110, 105, 116, 101]⟩, .int .i64 sy, .slice py (bl Y) cy, .int .i64 ey]) 53)) := by go_grown
  have rx := rx.keep hbb
  have ry := ry.keep hbb
  have hB := bt hB hbb
  have hX := (Has.new w2 [.string ⟨#[105, 110, 102, 105, 110, 105, 116, 101]⟩, .int .i64 sx, .slice px (bl X) cx, .int .i64 ex] 53).alloc (.cells (List.toArray [.string ⟨#[105, 110, 102, 105, 110, 105, 116, 101]⟩, .int .i64 sy, .slice py (bl Y) cy, .int .i64 ey]) 53)
  have hY := Has.new1 w2 (.cells (List.toArray [.string ⟨#[105, 110, 102, 105, 110, 105, 116, 101]⟩, .int .i64 sx, .slice px (bl X) cx, .int .i64 ex]) 53) [.string ⟨#[105, 110, 102, 105, 110, 105, 116, 101]⟩, .int .i64 sy, .slice py (bl Y) cy, .int .i64 ey] 53
  obtain ⟨x0, x1, x2, x3⟩ := hX.c4
  obtain ⟨y0, y1, y2, y3⟩ := hY.c4
  clear hb hbb
  go_wp2_with fail
  refine (rInfinite_c k W D E sg Hk.out Hsg.out _).mono ?_
  rintro e w3 ⟨rfl, hb⟩
  have hB := bt hB hb
  go_wp2_with fail
  go_ret3
  exact ⟨rfl, hB⟩

set_option maxRecDepth 100000 in
set_option maxHeartbeats 4000000 in
theorem rMul_if (k W D E mode a b : Int)  (sx sy ex ey : Int) (X Y : Nat) (hk : KK k W D E) (hq : ∀ w, Calls Tryd.prog 51 #[.int .i64 k, .int .i64 mode, .int .i64 a, .int .i64 b] w fun e w' => e = .returned (.bool true) ∧ w = w')
    (hx : Tq k a ⟨#[105, 110, 102, 105, 110, 105, 116, 101]⟩ sx X ex) (hy : Tq k b ⟨#[102, 105, 110, 105, 116, 101]⟩ sy Y ey) (hsx : Sgn sx) (hsy : Sgn sy) (w : World) :
    Calls Tryd.prog 21 #[.int .i64 k, .int .i64 mode, .int .i64 a, .int .i64 b] w fun e w' => e = .returned (.tuple #[.int .i64 (jn W (sgX sx sy) (endl D)), .int .i64 0, .int .i64 0]) ∧ Below w.heap.size w w' := by
  have Hk := Lib.hid hk; clear hk
  have Hq := Lib.hid hq; clear hq
  have Hx := Lib.hid hx; clear hx
  have Hy := Lib.hid hy; clear hy
  have hsg := sgX_s sx sy
  have ep := sgX_p sx sy hsx hsy
  generalize sgX sx sy = sg at *
  have Hsg := Lib.hid hsg; clear hsg
  obtain ⟨ep1, ep2⟩ := ep
  have sx0 : 0 ≤ sx := by unfold Sgn at hsx; omega
  have sx1 : sx ≤ 1 := by unfold Sgn at hsx; omega
  have sy0 : 0 ≤ sy := by unfold Sgn at hsy; omega
  have sy1 : sy ≤ 1 := by unfold Sgn at hsy; omega
  have Hsx := Lib.hid hsx; clear hsx
  have Hsy := Lib.hid hsy; clear hsy
  go_enter Tryd.func21, Tryd.ntmps21
  go_wp2_with fail
  refine (Hq.out _).mono ?_
  rintro e w0 ⟨rfl, rfl⟩
  go_wp2_with fail
  refine (Hx.out _).mono ?_
  rintro e w1 ⟨px, cx, rfl, rx, hB⟩
  go_wp2_with fail
  refine (Hy.out _).mono ?_
  rintro e w2 ⟨py, cy, rfl, ry, hb⟩
  have rx := rx.keep hb
  have hB := bt hB hb
  have hbb : Below w2.heap.size w2 ((w2.alloc (.cells (List.toArray [.string ⟨#[105, 110, 102, 105, 110, 105, 116, 101]⟩, .int .i64 sx, .slice px (bl X) cx, .int .i64 ex]) 53)).alloc (.cells (List.toArray [.string ⟨#[102, 105, 110, 105, 116, 101]⟩, .int .i64 sy, .slice py (bl Y) cy, .int .i64 ey]) 53)) := by go_grown
  have rx := rx.keep hbb
  have ry := ry.keep hbb
  have hB := bt hB hbb
  have hX := (Has.new w2 [.string ⟨#[105, 110, 102, 105, 110, 105, 116, 101]⟩, .int .i64 sx, .slice px (bl X) cx, .int .i64 ex] 53).alloc (.cells (List.toArray [.string ⟨#[102, 105, 110, 105, 116, 101]⟩, .int .i64 sy, .slice py (bl Y) cy, .int .i64 ey]) 53)
  have hY := Has.new1 w2 (.cells (List.toArray [.string ⟨#[105, 110, 102, 105, 110, 105, 116, 101]⟩, .int .i64 sx, .slice px (bl X) cx, .int .i64 ex]) 53) [.string ⟨#[102, 105, 110, 105, 116, 101]⟩, .int .i64 sy, .slice py (bl Y) cy, .int .i64 ey] 53
  obtain ⟨x0, x1, x2, x3⟩ := hX.c4
  obtain ⟨y0, y1, y2, y3⟩ := hY.c4
  clear hb hbb
  go_wp2_with fail
  refine (rInfinite_c k W D E sg Hk.out Hsg.out _).mono ?_
  rintro e w3 ⟨rfl, hb⟩
  have hB := bt hB hb
  go_wp2_with fail
  go_ret3
  exact ⟨rfl, hB⟩

set_option maxRecDepth 100000 in
set_option maxHeartbeats 4000000 in
theorem rMul_fi (k W D E mode a b : Int)  (sx sy ex ey : Int) (X Y : Nat) (hk : KK k W D E) (hq : ∀ w, Calls Tryd.prog 51 #[.int .i64 k, .int .i64 mode, .int .i64 a, .int .i64 b] w fun e w' => e = .returned (.bool true) ∧ w = w')
    (hx : Tq k a ⟨#[102, 105, 110, 105, 116, 101]⟩ sx X ex) (hy : Tq k b ⟨#[105, 110, 102, 105, 110, 105, 116, 101]⟩ sy Y ey) (hsx : Sgn sx) (hsy : Sgn sy) (w : World) :
    Calls Tryd.prog 21 #[.int .i64 k, .int .i64 mode, .int .i64 a, .int .i64 b] w fun e w' => e = .returned (.tuple #[.int .i64 (jn W (sgX sx sy) (endl D)), .int .i64 0, .int .i64 0]) ∧ Below w.heap.size w w' := by
  have Hk := Lib.hid hk; clear hk
  have Hq := Lib.hid hq; clear hq
  have Hx := Lib.hid hx; clear hx
  have Hy := Lib.hid hy; clear hy
  have hsg := sgX_s sx sy
  have ep := sgX_p sx sy hsx hsy
  generalize sgX sx sy = sg at *
  have Hsg := Lib.hid hsg; clear hsg
  obtain ⟨ep1, ep2⟩ := ep
  have sx0 : 0 ≤ sx := by unfold Sgn at hsx; omega
  have sx1 : sx ≤ 1 := by unfold Sgn at hsx; omega
  have sy0 : 0 ≤ sy := by unfold Sgn at hsy; omega
  have sy1 : sy ≤ 1 := by unfold Sgn at hsy; omega
  have Hsx := Lib.hid hsx; clear hsx
  have Hsy := Lib.hid hsy; clear hsy
  go_enter Tryd.func21, Tryd.ntmps21
  go_wp2_with fail
  refine (Hq.out _).mono ?_
  rintro e w0 ⟨rfl, rfl⟩
  go_wp2_with fail
  refine (Hx.out _).mono ?_
  rintro e w1 ⟨px, cx, rfl, rx, hB⟩
  go_wp2_with fail
  refine (Hy.out _).mono ?_
  rintro e w2 ⟨py, cy, rfl, ry, hb⟩
  have rx := rx.keep hb
  have hB := bt hB hb
  have hbb : Below w2.heap.size w2 ((w2.alloc (.cells (List.toArray [.string ⟨#[102, 105, 110, 105, 116, 101]⟩, .int .i64 sx, .slice px (bl X) cx, .int .i64 ex]) 53)).alloc (.cells (List.toArray [.string ⟨#[105, 110, 102, 105, 110, 105, 116, 101]⟩, .int .i64 sy, .slice py (bl Y) cy, .int .i64 ey]) 53)) := by go_grown
  have rx := rx.keep hbb
  have ry := ry.keep hbb
  have hB := bt hB hbb
  have hX := (Has.new w2 [.string ⟨#[102, 105, 110, 105, 116, 101]⟩, .int .i64 sx, .slice px (bl X) cx, .int .i64 ex] 53).alloc (.cells (List.toArray [.string ⟨#[105, 110, 102, 105, 110, 105, 116, 101]⟩, .int .i64 sy, .slice py (bl Y) cy, .int .i64 ey]) 53)
  have hY := Has.new1 w2 (.cells (List.toArray [.string ⟨#[102, 105, 110, 105, 116, 101]⟩, .int .i64 sx, .slice px (bl X) cx, .int .i64 ex]) 53) [.string ⟨#[105, 110, 102, 105, 110, 105, 116, 101]⟩, .int .i64 sy, .slice py (bl Y) cy, .int .i64 ey] 53
  obtain ⟨x0, x1, x2, x3⟩ := hX.c4
  obtain ⟨y0, y1, y2, y3⟩ := hY.c4
  clear hb hbb
  go_wp2_with fail
  refine (rInfinite_c k W D E sg Hk.out Hsg.out _).mono ?_
  rintro e w3 ⟨rfl, hb⟩
  have hB := bt hB hb
  go_wp2_with fail
  go_ret3
  exact ⟨rfl, hB⟩

set_option maxRecDepth 100000 in
set_option maxHeartbeats 4000000 in
theorem rMul_zz (k W D E mode a b : Int)  (sx sy ex ey : Int) (X Y : Nat) (hk : KK k W D E) (hq : ∀ w, Calls Tryd.prog 51 #[.int .i64 k, .int .i64 mode, .int .i64 a, .int .i64 b] w fun e w' => e = .returned (.bool true) ∧ w = w')
    (hx : Tq k a ⟨#[122, 101, 114, 111]⟩ sx X ex) (hy : Tq k b ⟨#[122, 101, 114, 111]⟩ sy Y ey) (hsx : Sgn sx) (hsy : Sgn sy) (w : World) :
    Calls Tryd.prog 21 #[.int .i64 k, .int .i64 mode, .int .i64 a, .int .i64 b] w fun e w' => e = .returned (.tuple #[.int .i64 (jn W (sgX sx sy) 0), .int .i64 0, .int .i64 0]) ∧ Below w.heap.size w w' := by
  have Hk := Lib.hid hk; clear hk
  have Hq := Lib.hid hq; clear hq
  have Hx := Lib.hid hx; clear hx
  have Hy := Lib.hid hy; clear hy
  have hsg := sgX_s sx sy
  have ep := sgX_p sx sy hsx hsy
  generalize sgX sx sy = sg at *
  have Hsg := Lib.hid hsg; clear hsg
  obtain ⟨ep1, ep2⟩ := ep
  have sx0 : 0 ≤ sx := by unfold Sgn at hsx; omega
  have sx1 : sx ≤ 1 := by unfold Sgn at hsx; omega
  have sy0 : 0 ≤ sy := by unfold Sgn at hsy; omega
  have sy1 : sy ≤ 1 := by unfold Sgn at hsy; omega
  have Hsx := Lib.hid hsx; clear hsx
  have Hsy := Lib.hid hsy; clear hsy
  go_enter Tryd.func21, Tryd.ntmps21
  go_wp2_with fail
  refine (Hq.out _).mono ?_
  rintro e w0 ⟨rfl, rfl⟩
  go_wp2_with fail
  refine (Hx.out _).mono ?_
  rintro e w1 ⟨px, cx, rfl, rx, hB⟩
  go_wp2_with fail
  refine (Hy.out _).mono ?_
  rintro e w2 ⟨py, cy, rfl, ry, hb⟩
  have rx := rx.keep hb
  have hB := bt hB hb
  have hbb : Below w2.heap.size w2 ((w2.alloc (.cells (List.toArray [.string ⟨#[122, 101, 114, 111]⟩, .int .i64 sx, .slice px (bl X) cx, .int .i64 ex]) 53)).alloc (.cells (List.toArray [.string ⟨#[122, 101, 114, 111]⟩, .int .i64 sy, .slice py (bl Y) cy, .int .i64 ey]) 53)) := by go_grown
  have rx := rx.keep hbb
  have ry := ry.keep hbb
  have hB := bt hB hbb
  have hX := (Has.new w2 [.string ⟨#[122, 101, 114, 111]⟩, .int .i64 sx, .slice px (bl X) cx, .int .i64 ex] 53).alloc (.cells (List.toArray [.string ⟨#[122, 101, 114, 111]⟩, .int .i64 sy, .slice py (bl Y) cy, .int .i64 ey]) 53)
  have hY := Has.new1 w2 (.cells (List.toArray [.string ⟨#[122, 101, 114, 111]⟩, .int .i64 sx, .slice px (bl X) cx, .int .i64 ex]) 53) [.string ⟨#[122, 101, 114, 111]⟩, .int .i64 sy, .slice py (bl Y) cy, .int .i64 ey] 53
  obtain ⟨x0, x1, x2, x3⟩ := hX.c4
  obtain ⟨y0, y1, y2, y3⟩ := hY.c4
  clear hb hbb
  go_wp2_with fail
  refine (rZero_c k W D E sg Hk.out Hsg.out _).mono ?_
  rintro e w3 ⟨rfl, hb⟩
  have hB := bt hB hb
  go_wp2_with fail
  go_ret3
  exact ⟨rfl, hB⟩

set_option maxRecDepth 100000 in
set_option maxHeartbeats 4000000 in
theorem rMul_zf (k W D E mode a b : Int)  (sx sy ex ey : Int) (X Y : Nat) (hk : KK k W D E) (hq : ∀ w, Calls Tryd.prog 51 #[.int .i64 k, .int .i64 mode, .int .i64 a, .int .i64 b] w fun e w' => e = .returned (.bool true) ∧ w = w')
    (hx : Tq k a ⟨#[122, 101, 114, 111]⟩ sx X ex) (hy : Tq k b ⟨#[102, 105, 110, 105, 116, 101]⟩ sy Y ey) (hsx : Sgn sx) (hsy : Sgn sy) (w : World) :
    Calls Tryd.prog 21 #[.int .i64 k, .int .i64 mode, .int .i64 a, .int .i64 b] w fun e w' => e = .returned (.tuple #[.int .i64 (jn W (sgX sx sy) 0), .int .i64 0, .int .i64 0]) ∧ Below w.heap.size w w' := by
  have Hk := Lib.hid hk; clear hk
  have Hq := Lib.hid hq; clear hq
  have Hx := Lib.hid hx; clear hx
  have Hy := Lib.hid hy; clear hy
  have hsg := sgX_s sx sy
  have ep := sgX_p sx sy hsx hsy
  generalize sgX sx sy = sg at *
  have Hsg := Lib.hid hsg; clear hsg
  obtain ⟨ep1, ep2⟩ := ep
  have sx0 : 0 ≤ sx := by unfold Sgn at hsx; omega
  have sx1 : sx ≤ 1 := by unfold Sgn at hsx; omega
  have sy0 : 0 ≤ sy := by unfold Sgn at hsy; omega
  have sy1 : sy ≤ 1 := by unfold Sgn at hsy; omega
  have Hsx := Lib.hid hsx; clear hsx
  have Hsy := Lib.hid hsy; clear hsy
  go_enter Tryd.func21, Tryd.ntmps21
  go_wp2_with fail
  refine (Hq.out _).mono ?_
  rintro e w0 ⟨rfl, rfl⟩
  go_wp2_with fail
  refine (Hx.out _).mono ?_
  rintro e w1 ⟨px, cx, rfl, rx, hB⟩
  go_wp2_with fail
  refine (Hy.out _).mono ?_
  rintro e w2 ⟨py, cy, rfl, ry, hb⟩
  have rx := rx.keep hb
  have hB := bt hB hb
  have hbb : Below w2.heap.size w2 ((w2.alloc (.cells (List.toArray [.string ⟨#[122, 101, 114, 111]⟩, .int .i64 sx, .slice px (bl X) cx, .int .i64 ex]) 53)).alloc (.cells (List.toArray [.string ⟨#[102, 105, 110, 105, 116, 101]⟩, .int .i64 sy, .slice py (bl Y) cy, .int .i64 ey]) 53)) := by go_grown
  have rx := rx.keep hbb
  have ry := ry.keep hbb
  have hB := bt hB hbb
  have hX := (Has.new w2 [.string ⟨#[122, 101, 114, 111]⟩, .int .i64 sx, .slice px (bl X) cx, .int .i64 ex] 53).alloc (.cells (List.toArray [.string ⟨#[102, 105, 110, 105, 116, 101]⟩, .int .i64 sy, .slice py (bl Y) cy, .int .i64 ey]) 53)
  have hY := Has.new1 w2 (.cells (List.toArray [.string ⟨#[122, 101, 114, 111]⟩, .int .i64 sx, .slice px (bl X) cx, .int .i64 ex]) 53) [.string ⟨#[102, 105, 110, 105, 116, 101]⟩, .int .i64 sy, .slice py (bl Y) cy, .int .i64 ey] 53
  obtain ⟨x0, x1, x2, x3⟩ := hX.c4
  obtain ⟨y0, y1, y2, y3⟩ := hY.c4
  clear hb hbb
  go_wp2_with fail
  refine (rZero_c k W D E sg Hk.out Hsg.out _).mono ?_
  rintro e w3 ⟨rfl, hb⟩
  have hB := bt hB hb
  go_wp2_with fail
  go_ret3
  exact ⟨rfl, hB⟩

set_option maxRecDepth 100000 in
set_option maxHeartbeats 4000000 in
theorem rMul_fz (k W D E mode a b : Int)  (sx sy ex ey : Int) (X Y : Nat) (hk : KK k W D E) (hq : ∀ w, Calls Tryd.prog 51 #[.int .i64 k, .int .i64 mode, .int .i64 a, .int .i64 b] w fun e w' => e = .returned (.bool true) ∧ w = w')
    (hx : Tq k a ⟨#[102, 105, 110, 105, 116, 101]⟩ sx X ex) (hy : Tq k b ⟨#[122, 101, 114, 111]⟩ sy Y ey) (hsx : Sgn sx) (hsy : Sgn sy) (w : World) :
    Calls Tryd.prog 21 #[.int .i64 k, .int .i64 mode, .int .i64 a, .int .i64 b] w fun e w' => e = .returned (.tuple #[.int .i64 (jn W (sgX sx sy) 0), .int .i64 0, .int .i64 0]) ∧ Below w.heap.size w w' := by
  have Hk := Lib.hid hk; clear hk
  have Hq := Lib.hid hq; clear hq
  have Hx := Lib.hid hx; clear hx
  have Hy := Lib.hid hy; clear hy
  have hsg := sgX_s sx sy
  have ep := sgX_p sx sy hsx hsy
  generalize sgX sx sy = sg at *
  have Hsg := Lib.hid hsg; clear hsg
  obtain ⟨ep1, ep2⟩ := ep
  have sx0 : 0 ≤ sx := by unfold Sgn at hsx; omega
  have sx1 : sx ≤ 1 := by unfold Sgn at hsx; omega
  have sy0 : 0 ≤ sy := by unfold Sgn at hsy; omega
  have sy1 : sy ≤ 1 := by unfold Sgn at hsy; omega
  have Hsx := Lib.hid hsx; clear hsx
  have Hsy := Lib.hid hsy; clear hsy
  go_enter Tryd.func21, Tryd.ntmps21
  go_wp2_with fail
  refine (Hq.out _).mono ?_
  rintro e w0 ⟨rfl, rfl⟩
  go_wp2_with fail
  refine (Hx.out _).mono ?_
  rintro e w1 ⟨px, cx, rfl, rx, hB⟩
  go_wp2_with fail
  refine (Hy.out _).mono ?_
  rintro e w2 ⟨py, cy, rfl, ry, hb⟩
  have rx := rx.keep hb
  have hB := bt hB hb
  have hbb : Below w2.heap.size w2 ((w2.alloc (.cells (List.toArray [.string ⟨#[102, 105, 110, 105, 116, 101]⟩, .int .i64 sx, .slice px (bl X) cx, .int .i64 ex]) 53)).alloc (.cells (List.toArray [.string ⟨#[122, 101, 114, 111]⟩, .int .i64 sy, .slice py (bl Y) cy, .int .i64 ey]) 53)) := by go_grown
  have rx := rx.keep hbb
  have ry := ry.keep hbb
  have hB := bt hB hbb
  have hX := (Has.new w2 [.string ⟨#[102, 105, 110, 105, 116, 101]⟩, .int .i64 sx, .slice px (bl X) cx, .int .i64 ex] 53).alloc (.cells (List.toArray [.string ⟨#[122, 101, 114, 111]⟩, .int .i64 sy, .slice py (bl Y) cy, .int .i64 ey]) 53)
  have hY := Has.new1 w2 (.cells (List.toArray [.string ⟨#[102, 105, 110, 105, 116, 101]⟩, .int .i64 sx, .slice px (bl X) cx, .int .i64 ex]) 53) [.string ⟨#[122, 101, 114, 111]⟩, .int .i64 sy, .slice py (bl Y) cy, .int .i64 ey] 53
  obtain ⟨x0, x1, x2, x3⟩ := hX.c4
  obtain ⟨y0, y1, y2, y3⟩ := hY.c4
  clear hb hbb
  go_wp2_with fail
  refine (rZero_c k W D E sg Hk.out Hsg.out _).mono ?_
  rintro e w3 ⟨rfl, hb⟩
  have hB := bt hB hb
  go_wp2_with fail
  go_ret3
  exact ⟨rfl, hB⟩

set_option maxRecDepth 100000 in
set_option maxHeartbeats 4000000 in
theorem rDiv_ii (k W D E mode a b : Int)  (sx sy ex ey : Int) (X Y : Nat) (hk : KK k W D E) (hq : ∀ w, Calls Tryd.prog 51 #[.int .i64 k, .int .i64 mode, .int .i64 a, .int .i64 b] w fun e w' => e = .returned (.bool true) ∧ w = w')
    (hx : Tq k a ⟨#[105, 110, 102, 105, 110, 105, 116, 101]⟩ sx X ex) (hy : Tq k b ⟨#[105, 110, 102, 105, 110, 105, 116, 101]⟩ sy Y ey) (hsx : Sgn sx) (hsy : Sgn sy) (w : World) :
    Calls Tryd.prog 23 #[.int .i64 k, .int .i64 mode, .int .i64 a, .int .i64 b] w fun e w' => e = .returned (.tuple #[.int .i64 (jn W 0 (qz D)), .int .i64 1, .int .i64 0]) ∧ Below w.heap.size w w' := by
  have Hk := Lib.hid hk; clear hk
  have Hq := Lib.hid hq; clear hq
  have Hx := Lib.hid hx; clear hx
  have Hy := Lib.hid hy; clear hy
  have hsg := sgX_s sx sy
  have ep := sgX_p sx sy hsx hsy
  generalize sgX sx sy = sg at *
  have Hsg := Lib.hid hsg; clear hsg
  obtain ⟨ep1, ep2⟩ := ep
  have sx0 : 0 ≤ sx := by unfold Sgn at hsx; omega
  have sx1 : sx ≤ 1 := by unfold Sgn at hsx; omega
  have sy0 : 0 ≤ sy := by unfold Sgn at hsy; omega
  have sy1 : sy ≤ 1 := by unfold Sgn at hsy; omega
  have Hsx := Lib.hid hsx; clear hsx
  have Hsy := Lib.hid hsy; clear hsy
  go_enter Tryd.func23, Tryd.ntmps23
  go_wp2_with fail
  refine (Hq.out _).mono ?_
  rintro e w0 ⟨rfl, rfl⟩
  go_wp2_with fail
  refine (Hx.out _).mono ?_
  rintro e w1 ⟨px, cx, rfl, rx, hB⟩
  go_wp2_with fail
  refine (Hy.out _).mono ?_
  rintro e w2 ⟨py, cy, rfl, ry, hb⟩
  have rx := rx.keep hb
  have hB := bt hB hb
  have hbb : Below w2.heap.size w2 ((w2.alloc (.cells (List.toArray [.string ⟨#[105, 110, 102, 105, 110, 105, 116, 101]⟩, .int .i64 sx, .slice px (bl X) cx, .int .i64 ex]) 53)).alloc (.cells (List.toArray [.string ⟨#[105, 110, 102, 105, 110, 105, 116, 101]⟩, .int .i64 sy, .slice py (bl Y) cy, .int .i64 ey]) 53)) := by go_grown
  have rx := rx.keep hbb
  have ry := ry.keep hbb
  have hB := bt hB hbb
  have hX := (Has.new w2 [.string ⟨#[105, 110, 102, 105, 110, 105, 116, 101]⟩, .int .i64 sx, .slice px (bl X) cx, .int .i64 ex] 53).alloc (.cells (List.toArray [.string ⟨#[105, 110, 102, 105, 110, 105, 116, 101]⟩, .int .i64 sy, .slice py (bl Y) cy, .int .i64 ey]) 53)
  have hY := Has.new1 w2 (.cells (List.toArray [.string ⟨#[105, 110, 102, 105, 110, 105, 116, 101]⟩, .int .i64 sx, .slice px (bl X) cx, .int .i64 ex]) 53) [.string ⟨#[105, 110, 102, 105, 110, 105, 116, 101]⟩, .int .i64 sy, .slice py (bl Y) cy, .int .i64 ey] 53
  obtain ⟨x0, x1, x2, x3⟩ := hX.c4
  obtain ⟨y0, y1, y2, y3⟩ := hY.c4
  clear hb hbb
  go_wp2_with fail
  refine (rQuiet_c k W D E Hk.out _).mono ?_
  rintro e w3 ⟨rfl, hb⟩
  have hB := bt hB hb
  go_wp2_with fail
  go_ret3
  exact ⟨rfl, hB⟩

set_option maxRecDepth 100000 in
set_option maxHeartbeats 4000000 in
theorem rDiv_zz (k W D E mode a b : Int)  (sx sy ex ey : Int) (X Y : Nat) (hk : KK k W D E) (hq : ∀ w, Calls Tryd.prog 51 #[.int .i64 k, .int .i64 mode, .int .i64 a, .int .i64 b] w fun e w' => e = .returned (.bool true) ∧ w = w')
    (hx : Tq k a ⟨#[122, 101, 114, 111]⟩ sx X ex) (hy : Tq k b ⟨#[122, 101, 114, 111]⟩ sy Y ey) (hsx : Sgn sx) (hsy : Sgn sy) (w : World) :
    Calls Tryd.prog 23 #[.int .i64 k, .int .i64 mode, .int .i64 a, .int .i64 b] w fun e w' => e = .returned (.tuple #[.int .i64 (jn W 0 (qz D)), .int .i64 1, .int .i64 0]) ∧ Below w.heap.size w w' := by
  have Hk := Lib.hid hk; clear hk
  have Hq := Lib.hid hq; clear hq
  have Hx := Lib.hid hx; clear hx
  have Hy := Lib.hid hy; clear hy
  have hsg := sgX_s sx sy
  have ep := sgX_p sx sy hsx hsy
  generalize sgX sx sy = sg at *
  have Hsg := Lib.hid hsg; clear hsg
  obtain ⟨ep1, ep2⟩ := ep
  have sx0 : 0 ≤ sx := by unfold Sgn at hsx; omega
  have sx1 : sx ≤ 1 := by unfold Sgn at hsx; omega
  have sy0 : 0 ≤ sy := by unfold Sgn at hsy; omega
  have sy1 : sy ≤ 1 := by unfold Sgn at hsy; omega
  have Hsx := Lib.hid hsx; clear hsx
  have Hsy := Lib.hid hsy; clear hsy
  go_enter Tryd.func23, Tryd.ntmps23
  go_wp2_with fail
  refine (Hq.out _).mono ?_
  rintro e w0 ⟨rfl, rfl⟩
  go_wp2_with fail
  refine (Hx.out _).mono ?_
  rintro e w1 ⟨px, cx, rfl, rx, hB⟩
  go_wp2_with fail
  refine (Hy.out _).mono ?_
  rintro e w2 ⟨py, cy, rfl, ry, hb⟩
  have rx := rx.keep hb
  have hB := bt hB hb
  have hbb : Below w2.heap.size w2 ((w2.alloc (.cells (List.toArray [.string ⟨#[122, 101, 114, 111]⟩, .int .i64 sx, .slice px (bl X) cx, .int .i64 ex]) 53)).alloc (.cells (List.toArray [.string ⟨#[122, 101, 114, 111]⟩, .int .i64 sy, .slice py (bl Y) cy, .int .i64 ey]) 53)) := by go_grown
  have rx := rx.keep hbb
  have ry := ry.keep hbb
  have hB := bt hB hbb
  have hX := (Has.new w2 [.string ⟨#[122, 101, 114, 111]⟩, .int .i64 sx, .slice px (bl X) cx, .int .i64 ex] 53).alloc (.cells (List.toArray [.string ⟨#[122, 101, 114, 111]⟩, .int .i64 sy, .slice py (bl Y) cy, .int .i64 ey]) 53)
  have hY := Has.new1 w2 (.cells (List.toArray [.string ⟨#[122, 101, 114, 111]⟩, .int .i64 sx, .slice px (bl X) cx, .int .i64 ex]) 53) [.string ⟨#[122, 101, 114, 111]⟩, .int .i64 sy, .slice py (bl Y) cy, .int .i64 ey] 53
  obtain ⟨x0, x1, x2, x3⟩ := hX.c4
  obtain ⟨y0, y1, y2, y3⟩ := hY.c4
  clear hb hbb
  go_wp2_with fail
  refine (rQuiet_c k W D E Hk.out _).mono ?_
  rintro e w3 ⟨rfl, hb⟩
  have hB := bt hB hb
  go_wp2_with fail
  go_ret3
  exact ⟨rfl, hB⟩

set_option maxRecDepth 100000 in
set_option maxHeartbeats 4000000 in
theorem rDiv_iz (k W D E mode a b : Int)  (sx sy ex ey : Int) (X Y : Nat) (hk : KK k W D E) (hq : ∀ w, Calls Tryd.prog 51 #[.int .i64 k, .int .i64 mode, .int .i64 a, .int .i64 b] w fun e w' => e = .returned (.bool true) ∧ w = w')
    (hx : Tq k a ⟨#[105, 110, 102, 105, 110, 105, 116, 101]⟩ sx X ex) (hy : Tq k b ⟨#[122, 101, 114, 111]⟩ sy Y ey) (hsx : Sgn sx) (hsy : Sgn sy) (w : World) :
    Calls Tryd.prog 23 #[.int .i64 k, .int .i64 mode, .int .i64 a, .int .i64 b] w fun e w' => e = .returned (.tuple #[.int .i64 (jn W (sgX sx sy) (endl D)), .int .i64 0, .int .i64 0]) ∧ Below w.heap.size w w' := by
  have Hk := Lib.hid hk; clear hk
  have Hq := Lib.hid hq; clear hq
  have Hx := Lib.hid hx; clear hx
  have Hy := Lib.hid hy; clear hy
  have hsg := sgX_s sx sy
  have ep := sgX_p sx sy hsx hsy
  generalize sgX sx sy = sg at *
  have Hsg := Lib.hid hsg; clear hsg
  obtain ⟨ep1, ep2⟩ := ep
  have sx0 : 0 ≤ sx := by unfold Sgn at hsx; omega
  have sx1 : sx ≤ 1 := by unfold Sgn at hsx; omega
  have sy0 : 0 ≤ sy := by unfold Sgn at hsy; omega
  have sy1 : sy ≤ 1 := by unfold Sgn at hsy; omega
  have Hsx := Lib.hid hsx; clear hsx
  have Hsy := Lib.hid hsy; clear hsy
  go_enter Tryd.func23, Tryd.ntmps23
  go_wp2_with fail
  refine (Hq.out _).mono ?_
  rintro e w0 ⟨rfl, rfl⟩
  go_wp2_with fail
  refine (Hx.out _).mono ?_
  rintro e w1 ⟨px, cx, rfl, rx, hB⟩
  go_wp2_with fail
  refine (Hy.out _).mono ?_
  rintro e w2 ⟨py, cy, rfl, ry, hb⟩
  have rx := rx.keep hb
  have hB := bt hB hb
  have hbb : Below w2.heap.size w2 ((w2.alloc (.cells (List.toArray [.string ⟨#[105, 110, 102, 105, 110, 105, 116, 101]⟩, .int .i64 sx, .slice px (bl X) cx, .int .i64 ex]) 53)).alloc (.cells (List.toArray [.string ⟨#[122, 101, 114, 111]⟩, .int .i64 sy, .slice py (bl Y) cy, .int .i64 ey]) 53)) := by go_grown
  have rx := rx.keep hbb
  have ry := ry.keep hbb
  have hB := bt hB hbb
  have hX := (Has.new w2 [.string ⟨#[105, 110, 102, 105, 110, 105, 116, 101]⟩, .int .i64 sx, .slice px (bl X) cx, .int .i64 ex] 53).alloc (.cells (List.toArray [.string ⟨#[122, 101, 114, 111]⟩, .int .i64 sy, .slice py (bl Y) cy, .int .i64 ey]) 53)
  have hY := Has.new1 w2 (.cells (List.toArray [.string ⟨#[105, 110, 102, 105, 110, 105, 116, 101]⟩, .int .i64 sx, .slice px (bl X) cx, .int .i64 ex]) 53) [.string ⟨#[122, 101, 114, 111]⟩, .int .i64 sy, .slice py (bl Y) cy, .int .i64 ey] 53
  obtain ⟨x0, x1, x2, x3⟩ := hX.c4
  obtain ⟨y0, y1, y2, y3⟩ := hY.c4
  clear hb hbb
  go_wp2_with fail
  refine (rInfinite_c k W D E sg Hk.out Hsg.out _).mono ?_
  rintro e w3 ⟨rfl, hb⟩
  have hB := bt hB hb
  go_wp2_with fail
  go_ret3
  exact ⟨rfl, hB⟩

set_option maxRecDepth 100000 in
set_option maxHeartbeats 4000000 in
theorem rDiv_if (k W D E mode a b : Int)  (sx sy ex ey : Int) (X Y : Nat) (hk : KK k W D E) (hq : ∀ w, Calls Tryd.prog 51 #[.int .i64 k, .int .i64 mode, .int .i64 a, .int .i64 b] w fun e w' => e = .returned (.bool true) ∧ w = w')
    (hx : Tq k a ⟨#[105, 110, 102, 105, 110, 105, 116, 101]⟩ sx X ex) (hy : Tq k b ⟨#[102, 105, 110, 105, 116, 101]⟩ sy Y ey) (hsx : Sgn sx) (hsy : Sgn sy) (w : World) :
    Calls Tryd.prog 23 #[.int .i64 k, .int .i64 mode, .int .i64 a, .int .i64 b] w fun e w' => e = .returned (.tuple #[.int .i64 (jn W (sgX sx sy) (endl D)), .int .i64 0, .int .i64 0]) ∧ Below w.heap.size w w' := by
  have Hk := Lib.hid hk; clear hk
  have Hq := Lib.hid hq; clear hq
  have Hx := Lib.hid hx; clear hx
  have Hy := Lib.hid hy; clear hy
  have hsg := sgX_s sx sy
  have ep := sgX_p sx sy hsx hsy
  generalize sgX sx sy = sg at *
  have Hsg := Lib.hid hsg; clear hsg
  obtain ⟨ep1, ep2⟩ := ep
  have sx0 : 0 ≤ sx := by unfold Sgn at hsx; omega
  have sx1 : sx ≤ 1 := by unfold Sgn at hsx; omega
  have sy0 : 0 ≤ sy := by unfold Sgn at hsy; omega
  have sy1 : sy ≤ 1 := by unfold Sgn at hsy; omega
  have Hsx := Lib.hid hsx; clear hsx
  have Hsy := Lib.hid hsy; clear hsy
  go_enter Tryd.func23, Tryd.ntmps23
  go_wp2_with fail
  refine (Hq.out _).mono ?_
  rintro e w0 ⟨rfl, rfl⟩
  go_wp2_with fail
  refine (Hx.out _).mono ?_
  rintro e w1 ⟨px, cx, rfl, rx, hB⟩
  go_wp2_with fail
  refine (Hy.out _).mono ?_
  rintro e w2 ⟨py, cy, rfl, ry, hb⟩
  have rx := rx.keep hb
  have hB := bt hB hb
  have hbb : Below w2.heap.size w2 ((w2.alloc (.cells (List.toArray [.string ⟨#[105, 110, 102, 105, 110, 105, 116, 101]⟩, .int .i64 sx, .slice px (bl X) cx, .int .i64 ex]) 53)).alloc (.cells (List.toArray [.string ⟨#[102, 105, 110, 105, 116, 101]⟩, .int .i64 sy, .slice py (bl Y) cy, .int .i64 ey]) 53)) := by go_grown
  have rx := rx.keep hbb
  have ry := ry.keep hbb
  have hB := bt hB hbb
  have hX := (Has.new w2 [.string ⟨#[105, 110, 102, 105, 110, 105, 116, 101]⟩, .int .i64 sx, .slice px (bl X) cx, .int .i64 ex] 53).alloc (.cells (List.toArray [.string ⟨#[102, 105, 110, 105, 116, 101]⟩, .int .i64 sy, .slice py (bl Y) cy, .int .i64 ey]) 53)
  have hY := Has.new1 w2 (.cells (List.toArray [.string ⟨#[105, 110, 102, 105, 110, 105, 116, 101]⟩, .int .i64 sx, .slice px (bl X) cx, .int .i64 ex]) 53) [.string ⟨#[102, 105, 110, 105, 116, 101]⟩, .int .i64 sy, .slice py (bl Y) cy, .int .i64 ey] 53
  obtain ⟨x0, x1, x2, x3⟩ := hX.c4
  obtain ⟨y0, y1, y2, y3⟩ := hY.c4
  clear hb hbb
  go_wp2_with fail
  refine (rInfinite_c k W D E sg Hk.out Hsg.out _).mono ?_
  rintro e w3 ⟨rfl, hb⟩
  have hB := bt hB hb
  go_wp2_with fail
  go_ret3
  exact ⟨rfl, hB⟩

set_option maxRecDepth 100000 in
set_option maxHeartbeats 4000000 in
theorem rDiv_fz (k W D E mode a b : Int)  (sx sy ex ey : Int) (X Y : Nat) (hk : KK k W D E) (hq : ∀ w, Calls Tryd.prog 51 #[.int .i64 k, .int .i64 mode, .int .i64 a, .int .i64 b] w fun e w' => e = .returned (.bool true) ∧ w = w')
    (hx : Tq k a ⟨#[102, 105, 110, 105, 116, 101]⟩ sx X ex) (hy : Tq k b ⟨#[122, 101, 114, 111]⟩ sy Y ey) (hsx : Sgn sx) (hsy : Sgn sy) (w : World) :
    Calls Tryd.prog 23 #[.int .i64 k, .int .i64 mode, .int .i64 a, .int .i64 b] w fun e w' => e = .returned (.tuple #[.int .i64 (jn W (sgX sx sy) (endl D)), .int .i64 2, .int .i64 0]) ∧ Below w.heap.size w w' := by
  have Hk := Lib.hid hk; clear hk
  have Hq := Lib.hid hq; clear hq
  have Hx := Lib.hid hx; clear hx
  have Hy := Lib.hid hy; clear hy
  have hsg := sgX_s sx sy
  have ep := sgX_p sx sy hsx hsy
  generalize sgX sx sy = sg at *
  have Hsg := Lib.hid hsg; clear hsg
  obtain ⟨ep1, ep2⟩ := ep
  have sx0 : 0 ≤ sx := by unfold Sgn at hsx; omega
  have sx1 : sx ≤ 1 := by unfold Sgn at hsx; omega
  have sy0 : 0 ≤ sy := by unfold Sgn at hsy; omega
  have sy1 : sy ≤ 1 := by unfold Sgn at hsy; omega
  have Hsx := Lib.hid hsx; clear hsx
  have Hsy := Lib.hid hsy; clear hsy
  go_enter Tryd.func23, Tryd.ntmps23
  go_wp2_with fail
  refine (Hq.out _).mono ?_
  rintro e w0 ⟨rfl, rfl⟩
  go_wp2_with fail
  refine (Hx.out _).mono ?_
  rintro e w1 ⟨px, cx, rfl, rx, hB⟩
  go_wp2_with fail
  refine (Hy.out _).mono ?_
  rintro e w2 ⟨py, cy, rfl, ry, hb⟩
  have rx := rx.keep hb
  have hB := bt hB hb
  have hbb : Below w2.heap.size w2 ((w2.alloc (.cells (List.toArray [.string ⟨#[102, 105, 110, 105, 116, 101]⟩, .int .i64 sx, .slice px (bl X) cx, .int .i64 ex]) 53)).alloc (.cells (List.toArray [.string ⟨#[122, 101, 114, 111]⟩, .int .i64 sy, .slice py (bl Y) cy, .int .i64 ey]) 53)) := by go_grown
  have rx := rx.keep hbb
  have ry := ry.keep hbb
  have hB := bt hB hbb
  have hX := (Has.new w2 [.string ⟨#[102, 105, 110, 105, 116, 101]⟩, .int .i64 sx, .slice px (bl X) cx, .int .i64 ex] 53).alloc (.cells (List.toArray [.string ⟨#[122, 101, 114, 111]⟩, .int .i64 sy, .slice py (bl Y) cy, .int .i64 ey]) 53)
  have hY := Has.new1 w2 (.cells (List.toArray [.string ⟨#[102, 105, 110, 105, 116, 101]⟩, .int .i64 sx, .slice px (bl X) cx, .int .i64 ex]) 53) [.string ⟨#[122, 101, 114, 111]⟩, .int .i64 sy, .slice py (bl Y) cy, .int .i64 ey] 53
  obtain ⟨x0, x1, x2, x3⟩ := hX.c4
  obtain ⟨y0, y1, y2, y3⟩ := hY.c4
  clear hb hbb
  go_wp2_with fail
  refine (rInfinite_c k W D E sg Hk.out Hsg.out _).mono ?_
  rintro e w3 ⟨rfl, hb⟩
  have hB := bt hB hb
  go_wp2_with fail
  go_ret3
  exact ⟨rfl, hB⟩

set_option maxRecDepth 100000 in
set_option maxHeartbeats 4000000 in
theorem rDiv_zi (k W D E mode a b : Int)  (sx sy ex ey : Int) (X Y : Nat) (hk : KK k W D E) (hq : ∀ w, Calls Tryd.prog 51 #[.int .i64 k, .int .i64 mode, .int .i64 a, .int .i64 b] w fun e w' => e = .returned (.bool true) ∧ w = w')
    (hx : Tq k a ⟨#[122, 101, 114, 111]⟩ sx X ex) (hy : Tq k b ⟨#[105, 110, 102, 105, 110, 105, 116, 101]⟩ sy Y ey) (hsx : Sgn sx) (hsy : Sgn sy) (w : World) :
    Calls Tryd.prog 23 #[.int .i64 k, .int .i64 mode, .int .i64 a, .int .i64 b] w fun e w' => e = .returned (.tuple #[.int .i64 (jn W (sgX sx sy) 0), .int .i64 0, .int .i64 0]) ∧ Below w.heap.size w w' := by
  have Hk := Lib.hid hk; clear hk
  have Hq := Lib.hid hq; clear hq
  have Hx := Lib.hid hx; clear hx
  have Hy := Lib.hid hy; clear hy
  have hsg := sgX_s sx sy
  have ep := sgX_p sx sy hsx hsy
  generalize sgX sx sy = sg at *
  have Hsg := Lib.hid hsg; clear hsg
  obtain ⟨ep1, ep2⟩ := ep
  have sx0 : 0 ≤ sx := by unfold Sgn at hsx; omega
  have sx1 : sx ≤ 1 := by unfold Sgn at hsx; omega
  have sy0 : 0 ≤ sy := by unfold Sgn at hsy; omega
  have sy1 : sy ≤ 1 := by unfold Sgn at hsy; omega
  have Hsx := Lib.hid hsx; clear hsx
  have Hsy := Lib.hid hsy; clear hsy
  go_enter Tryd.func23, Tryd.ntmps23
  go_wp2_with fail
  refine (Hq.out _).mono ?_
  rintro e w0 ⟨rfl, rfl⟩
  go_wp2_with fail
  refine (Hx.out _).mono ?_
  rintro e w1 ⟨px, cx, rfl, rx, hB⟩
  go_wp2_with fail
  refine (Hy.out _).mono ?_
  rintro e w2 ⟨py, cy, rfl, ry, hb⟩
  have rx := rx.keep hb
  have hB := bt hB hb
  have hbb : Below w2.heap.size w2 ((w2.alloc (.cells (List.toArray [.string ⟨#[122, 101, 114, 111]⟩, .int .i64 sx, .slice px (bl X) cx, .int .i64 ex]) 53)).alloc (.cells (List.toArray [.string ⟨#[105, 110, 102, 105, 110, 105, 116, 101]⟩, .int .i64 sy, .slice py (bl Y) cy, .int .i64 ey]) 53)) := by go_grown
  have rx := rx.keep hbb
  have ry := ry.keep hbb
  have hB := bt hB hbb
  have hX := (Has.new w2 [.string ⟨#[122, 101, 114, 111]⟩, .int .i64 sx, .slice px (bl X) cx, .int .i64 ex] 53).alloc (.cells (List.toArray [.string ⟨#[105, 110, 102, 105, 110, 105, 116, 101]⟩, .int .i64 sy, .slice py (bl Y) cy, .int .i64 ey]) 53)
  have hY := Has.new1 w2 (.cells (List.toArray [.string ⟨#[122, 101, 114, 111]⟩, .int .i64 sx, .slice px (bl X) cx, .int .i64 ex]) 53) [.string ⟨#[105, 110, 102, 105, 110, 105, 116, 101]⟩, .int .i64 sy, .slice py (bl Y) cy, .int .i64 ey] 53
  obtain ⟨x0, x1, x2, x3⟩ := hX.c4
  obtain ⟨y0, y1, y2, y3⟩ := hY.c4
  clear hb hbb
  go_wp2_with fail
  refine (rZero_c k W D E sg Hk.out Hsg.out _).mono ?_
  rintro e w3 ⟨rfl, hb⟩
  have hB := bt hB hb
  go_wp2_with fail
  go_ret3
  exact ⟨rfl, hB⟩

set_option maxRecDepth 100000 in
set_option maxHeartbeats 4000000 in
theorem rDiv_zf (k W D E mode a b : Int)  (sx sy ex ey : Int) (X Y : Nat) (hk : KK k W D E) (hq : ∀ w, Calls Tryd.prog 51 #[.int .i64 k, .int .i64 mode, .int .i64 a, .int .i64 b] w fun e w' => e = .returned (.bool true) ∧ w = w')
    (hx : Tq k a ⟨#[122, 101, 114, 111]⟩ sx X ex) (hy : Tq k b ⟨#[102, 105, 110, 105, 116, 101]⟩ sy Y ey) (hsx : Sgn sx) (hsy : Sgn sy) (w : World) :
    Calls Tryd.prog 23 #[.int .i64 k, .int .i64 mode, .int .i64 a, .int .i64 b] w fun e w' => e = .returned (.tuple #[.int .i64 (jn W (sgX sx sy) 0), .int .i64 0, .int .i64 0]) ∧ Below w.heap.size w w' := by
  have Hk := Lib.hid hk; clear hk
  have Hq := Lib.hid hq; clear hq
  have Hx := Lib.hid hx; clear hx
  have Hy := Lib.hid hy; clear hy
  have hsg := sgX_s sx sy
  have ep := sgX_p sx sy hsx hsy
  generalize sgX sx sy = sg at *
  have Hsg := Lib.hid hsg; clear hsg
  obtain ⟨ep1, ep2⟩ := ep
  have sx0 : 0 ≤ sx := by unfold Sgn at hsx; omega
  have sx1 : sx ≤ 1 := by unfold Sgn at hsx; omega
  have sy0 : 0 ≤ sy := by unfold Sgn at hsy; omega
  have sy1 : sy ≤ 1 := by unfold Sgn at hsy; omega
  have Hsx := Lib.hid hsx; clear hsx
  have Hsy := Lib.hid hsy; clear hsy
  go_enter Tryd.func23, Tryd.ntmps23
  go_wp2_with fail
  refine (Hq.out _).mono ?_
  rintro e w0 ⟨rfl, rfl⟩
  go_wp2_with fail
  refine (Hx.out _).mono ?_
  rintro e w1 ⟨px, cx, rfl, rx, hB⟩
  go_wp2_with fail
  refine (Hy.out _).mono ?_
  rintro e w2 ⟨py, cy, rfl, ry, hb⟩
  have rx := rx.keep hb
  have hB := bt hB hb
  have hbb : Below w2.heap.size w2 ((w2.alloc (.cells (List.toArray [.string ⟨#[122, 101, 114, 111]⟩, .int .i64 sx, .slice px (bl X) cx, .int .i64 ex]) 53)).alloc (.cells (List.toArray [.string ⟨#[102, 105, 110, 105, 116, 101]⟩, .int .i64 sy, .slice py (bl Y) cy, .int .i64 ey]) 53)) := by go_grown
  have rx := rx.keep hbb
  have ry := ry.keep hbb
  have hB := bt hB hbb
  have hX := (Has.new w2 [.string ⟨#[122, 101, 114, 111]⟩, .int .i64 sx, .slice px (bl X) cx, .int .i64 ex] 53).alloc (.cells (List.toArray [.string ⟨#[102, 105, 110, 105, 116, 101]⟩, .int .i64 sy, .slice py (bl Y) cy, .int .i64 ey]) 53)
  have hY := Has.new1 w2 (.cells (List.toArray [.string ⟨#[122, 101, 114, 111]⟩, .int .i64 sx, .slice px (bl X) cx, .int .i64 ex]) 53) [.string ⟨#[102, 105, 110, 105, 116, 101]⟩, .int .i64 sy, .slice py (bl Y) cy, .int .i64 ey] 53
  obtain ⟨x0, x1, x2, x3⟩ := hX.c4
  obtain ⟨y0, y1, y2, y3⟩ := hY.c4
  clear hb hbb
  go_wp2_with fail
  refine (rZero_c k W D E sg Hk.out Hsg.out _).mono ?_
  rintro e w3 ⟨rfl, hb⟩
  have hB := bt hB hb
  go_wp2_with fail
  go_ret3
  exact ⟨rfl, hB⟩

set_option maxRecDepth 100000 in
set_option maxHeartbeats 4000000 in
theorem rDiv_fi (k W D E mode a b : Int)  (sx sy ex ey : Int) (X Y : Nat) (hk : KK k W D E) (hq : ∀ w, Calls Tryd.prog 51 #[.int .i64 k, .int .i64 mode, .int .i64 a, .int .i64 b] w fun e w' => e = .returned (.bool true) ∧ w = w')
    (hx : Tq k a ⟨#[102, 105, 110, 105, 116, 101]⟩ sx X ex) (hy : Tq k b ⟨#[105, 110, 102, 105, 110, 105, 116, 101]⟩ sy Y ey) (hsx : Sgn sx) (hsy : Sgn sy) (w : World) :
    Calls Tryd.prog 23 #[.int .i64 k, .int .i64 mode, .int .i64 a, .int .i64 b] w fun e w' => e = .returned (.tuple #[.int .i64 (jn W (sgX sx sy) 0), .int .i64 0, .int .i64 0]) ∧ Below w.heap.size w w' := by
  have Hk := Lib.hid hk; clear hk
  have Hq := Lib.hid hq; clear hq
  have Hx := Lib.hid hx; clear hx
  have Hy := Lib.hid hy; clear hy
  have hsg := sgX_s sx sy
  have ep := sgX_p sx sy hsx hsy
  generalize sgX sx sy = sg at *
  have Hsg := Lib.hid hsg; clear hsg
  obtain ⟨ep1, ep2⟩ := ep
  have sx0 : 0 ≤ sx := by unfold Sgn at hsx; omega
  have sx1 : sx ≤ 1 := by unfold Sgn at hsx; omega
  have sy0 : 0 ≤ sy := by unfold Sgn at hsy; omega
  have sy1 : sy ≤ 1 := by unfold Sgn at hsy; omega
  have Hsx := Lib.hid hsx; clear hsx
  have Hsy := Lib.hid hsy; clear hsy
  go_enter Tryd.func23, Tryd.ntmps23
  go_wp2_with fail
  refine (Hq.out _).mono ?_
  rintro e w0 ⟨rfl, rfl⟩
  go_wp2_with fail
  refine (Hx.out _).mono ?_
  rintro e w1 ⟨px, cx, rfl, rx, hB⟩
  go_wp2_with fail
  refine (Hy.out _).mono ?_
  rintro e w2 ⟨py, cy, rfl, ry, hb⟩
  have rx := rx.keep hb
  have hB := bt hB hb
  have hbb : Below w2.heap.size w2 ((w2.alloc (.cells (List.toArray [.string ⟨#[102, 105, 110, 105, 116, 101]⟩, .int .i64 sx, .slice px (bl X) cx, .int .i64 ex]) 53)).alloc (.cells (List.toArray [.string ⟨#[105, 110, 102, 105, 110, 105, 116, 101]⟩, .int .i64 sy, .slice py (bl Y) cy, .int .i64 ey]) 53)) := by go_grown
  have rx := rx.keep hbb
  have ry := ry.keep hbb
  have hB := bt hB hbb
  have hX := (Has.new w2 [.string ⟨#[102, 105, 110, 105, 116, 101]⟩, .int .i64 sx, .slice px (bl X) cx, .int .i64 ex] 53).alloc (.cells (List.toArray [.string ⟨#[105, 110, 102, 105, 110, 105, 116, 101]⟩, .int .i64 sy, .slice py (bl Y) cy, .int .i64 ey]) 53)
  have hY := Has.new1 w2 (.cells (List.toArray [.string ⟨#[102, 105, 110, 105, 116, 101]⟩, .int .i64 sx, .slice px (bl X) cx, .int .i64 ex]) 53) [.string ⟨#[105, 110, 102, 105, 110, 105, 116, 101]⟩, .int .i64 sy, .slice py (bl Y) cy, .int .i64 ey] 53
  obtain ⟨x0, x1, x2, x3⟩ := hX.c4
  obtain ⟨y0, y1, y2, y3⟩ := hY.c4
  clear hb hbb
  go_wp2_with fail
  refine (rZero_c k W D E sg Hk.out Hsg.out _).mono ?_
  rintro e w3 ⟨rfl, hb⟩
  have hB := bt hB hb
  go_wp2_with fail
  go_ret3
  exact ⟨rfl, hB⟩

set_option maxRecDepth 100000 in
set_option maxHeartbeats 8000000 in
theorem rMul_ff (k W D E mode a b : Int)  (sx sy ex ey : Int) (X Y : Nat) (hk : KK k W D E) (hq : ∀ w, Calls Tryd.prog 51 #[.int .i64 k, .int .i64 mode, .int .i64 a, .int .i64 b] w fun e w' => e = .returned (.bool true) ∧ w = w')
    (hx : Tq k a ⟨#[102, 105, 110, 105, 116, 101]⟩ sx X ex) (hy : Tq k b ⟨#[102, 105, 110, 105, 116, 101]⟩ sy Y ey) (hsx : Sgn sx) (hsy : Sgn sy) (hm : Mode mode) (hX0 : 0 < X) (hY0 : 0 < Y) (hX54 : X < 18014398509481984) (hY54 : Y < 18014398509481984) (hex : -1100 ≤ ex ∧ ex ≤ 1000) (hey : -1100 ≤ ey ∧ ey ≤ 1000) (w : World) :
    Calls Tryd.prog 21 #[.int .i64 k, .int .i64 mode, .int .i64 a, .int .i64 b] w fun e w' => e = .returned (.tuple #[.int .i64 (roundF W D mode (sgX sx sy) (X * Y) (ex + ey) false).1, .int .i64 (roundF W D mode (sgX sx sy) (X * Y) (ex + ey) false).2, .int .i64 0]) ∧ Below w.heap.size w w' := by
  have hbX : bl X ≤ 54 := bl_mono_le X 54 (by omega)
  have hbY : bl Y ≤ 54 := bl_mono_le Y 54 (by omega)
  have hN0 : X * Y ≠ 0 := fun q => by rcases Nat.mul_eq_zero.1 q with q | q <;> omega
  have hNb : bl (X * Y) ≤ 200 := by have := bl_prod X Y 54 (by omega); omega
  have HR := Lib.hid (fun (p : Option Addr) (c : Nat) (w' : World) (h : RN w' (.slice p (bl (X * Y)) c) (bl (X * Y)) (X * Y)) => Rounded_c k W D E mode (sgX sx sy) (X * Y) (ex + ey) false (.slice p (bl (X * Y)) c) hk hm (sgX_s sx sy) hN0 (by omega) (by omega) (by omega) (fun h => by cases h) w' h)
  have HT := Lib.hid (fun (p p' : Option Addr) (c c' : Nat) (w' : World) (h : RN w' (.slice p (bl X) c) (bl X) X) (h' : RN w' (.slice p' (bl Y) c') (bl Y) Y) => Times_c (.slice p (bl X) c) (.slice p' (bl Y) c') X Y hX0 hY0 (by omega) (by omega) w' h h')
  have v1 : IntKind.i64.wrap (ex + ey) = ex + ey := IntWalk.i64_in _ (by omega)
  clear hN0 hNb hX0 hY0 hm hX54 hY54
  generalize X * Y = N at *
  have Hk := Lib.hid hk; clear hk
  have Hq := Lib.hid hq; clear hq
  have Hx := Lib.hid hx; clear hx
  have Hy := Lib.hid hy; clear hy
  have hsg := sgX_s sx sy
  have ep := sgX_p sx sy hsx hsy
  generalize sgX sx sy = sg at *
  have Hsg := Lib.hid hsg; clear hsg
  obtain ⟨ep1, ep2⟩ := ep
  have sx0 : 0 ≤ sx := by unfold Sgn at hsx; omega
  have sx1 : sx ≤ 1 := by unfold Sgn at hsx; omega
  have sy0 : 0 ≤ sy := by unfold Sgn at hsy; omega
  have sy1 : sy ≤ 1 := by unfold Sgn at hsy; omega
  have Hsx := Lib.hid hsx; clear hsx
  have Hsy := Lib.hid hsy; clear hsy
  go_enter Tryd.func21, Tryd.ntmps21
  go_wp2_with fail
  refine (Hq.out _).mono ?_
  rintro e w0 ⟨rfl, rfl⟩
  go_wp2_with fail
  refine (Hx.out _).mono ?_
  rintro e w1 ⟨px, cx, rfl, rx, hB⟩
  go_wp2_with fail
  refine (Hy.out _).mono ?_
  rintro e w2 ⟨py, cy, rfl, ry, hb⟩
  have rx := rx.keep hb
  have hB := bt hB hb
  have hbb : Below w2.heap.size w2 ((w2.alloc (.cells (List.toArray [.string ⟨#[102, 105, 110, 105, 116, 101]⟩, .int .i64 sx, .slice px (bl X) cx, .int .i64 ex]) 53)).alloc (.cells (List.toArray [.string ⟨#[102, 105, 110, 105, 116, 101]⟩, .int .i64 sy, .slice py (bl Y) cy, .int .i64 ey]) 53)) := by go_grown
  have rx := rx.keep hbb
  have ry := ry.keep hbb
  have hB := bt hB hbb
  have hX := (Has.new w2 [.string ⟨#[102, 105, 110, 105, 116, 101]⟩, .int .i64 sx, .slice px (bl X) cx, .int .i64 ex] 53).alloc (.cells (List.toArray [.string ⟨#[102, 105, 110, 105, 116, 101]⟩, .int .i64 sy, .slice py (bl Y) cy, .int .i64 ey]) 53)
  have hY := Has.new1 w2 (.cells (List.toArray [.string ⟨#[102, 105, 110, 105, 116, 101]⟩, .int .i64 sx, .slice px (bl X) cx, .int .i64 ex]) 53) [.string ⟨#[102, 105, 110, 105, 116, 101]⟩, .int .i64 sy, .slice py (bl Y) cy, .int .i64 ey] 53
  obtain ⟨x0, x1, x2, x3⟩ := hX.c4
  obtain ⟨y0, y1, y2, y3⟩ := hY.c4
  clear hb hbb
  go_wp2_with fail
  have hs0 : SM w _ (.slice px (bl X) cx) (.slice py (bl Y) cy) (bl X) X (bl Y) Y := ⟨hB, rx, ry⟩
  clear hX hY hB rx ry x0 y0
  go_region_held3 (fun w' => SM w w' (.slice px (bl X) cx) (.slice py (bl Y) cy) (bl X) X (bl Y) Y ∧ w'.cell? ⟨w2.heap.size, 1, none⟩ = some (.int .i64 sx) ∧ w'.cell? ⟨w2.heap.size, 2, none⟩ = some (.slice px (bl X) cx) ∧ w'.cell? ⟨w2.heap.size, 3, none⟩ = some (.int .i64 ex) ∧ w'.cell? ⟨w2.heap.size + 1, 1, none⟩ = some (.int .i64 sy) ∧ w'.cell? ⟨w2.heap.size + 1, 2, none⟩ = some (.slice py (bl Y) cy) ∧ w'.cell? ⟨w2.heap.size + 1, 3, none⟩ = some (.int .i64 ey))
    (first | exact ⟨hs0, x1, x2, x3, y1, y2, y3⟩ | exact sm_drew ⟨hs0, x1, x2, x3, y1, y2, y3⟩ | exact sm_keep (by assumption) hb | assumption)
    (first | (go_at_call 64; refine (HT.out _ _ _ _ _ (sm_x (by assumption)) (sm_y (by assumption))).mono ?_; rintro e' w' ⟨p1, c1, rfl, h1, hb⟩) | (go_at_call 60; refine (HR.out _ _ _ (by first | exact h1 | exact RN.drewn h1 | assumption)).mono ?_; rintro e' w' ⟨rfl, hb⟩))
  all_goals
    rename_i hH
    have hB := hH.1.1
    clear hH
    go_wp2_with fail
    go_ret3
    exact ⟨rfl, hB⟩

set_option maxRecDepth 100000 in
set_option maxHeartbeats 8000000 in
theorem rDiv_ff (k W D E mode a b : Int)  (sx sy ex ey : Int) (X Y : Nat) (hk : KK k W D E) (hq : ∀ w, Calls Tryd.prog 51 #[.int .i64 k, .int .i64 mode, .int .i64 a, .int .i64 b] w fun e w' => e = .returned (.bool true) ∧ w = w')
    (hx : Tq k a ⟨#[102, 105, 110, 105, 116, 101]⟩ sx X ex) (hy : Tq k b ⟨#[102, 105, 110, 105, 116, 101]⟩ sy Y ey) (hsx : Sgn sx) (hsy : Sgn sy) (hm : Mode mode) (hX0 : 0 < X) (hY0 : 0 < Y) (hX54 : X < 18014398509481984) (hY54 : Y < 18014398509481984) (hex : -1100 ≤ ex ∧ ex ≤ 1000) (hey : -1100 ≤ ey ∧ ey ≤ 1000) (t : Nat) (ht : 2 * D + 4 = (t : Int)) (hbig : D < (bl (X * 2 ^ t / Y) : Int)) (w : World) :
    Calls Tryd.prog 23 #[.int .i64 k, .int .i64 mode, .int .i64 a, .int .i64 b] w fun e w' => e = .returned (.tuple #[.int .i64 (roundF W D mode (sgX sx sy) (X * 2 ^ t / Y) (ex - ey - 2 * D - 4) (decide (X * 2 ^ t % Y ≠ 0))).1, .int .i64 (roundF W D mode (sgX sx sy) (X * 2 ^ t / Y) (ex - ey - 2 * D - 4) (decide (X * 2 ^ t % Y ≠ 0))).2, .int .i64 0]) ∧ Below w.heap.size w w' := by
  have hd : 11 ≤ D ∧ D ≤ 53 := by rcases hk.kl with ⟨_, rfl, _⟩ | ⟨_, rfl, _⟩ | ⟨_, rfl, _⟩ <;> decide
  obtain ⟨d0, d1⟩ := hd
  have hbX : bl X ≤ 54 := bl_mono_le X 54 (by omega)
  have hbY : bl Y ≤ 54 := bl_mono_le Y 54 (by omega)
  have hX1 := bl_pos X (by omega)
  have hAl : bl (X * 2 ^ t) = t + bl X := bl_up X t (by omega)
  have hA0 : 0 < X * 2 ^ t := Nat.mul_pos hX0 (Nat.two_pow_pos t)
  have UPX := Lib.hid (fun (p : Option Addr) (c : Nat) (w' : World) (h : RN w' (.slice p (bl X) c) (bl X) X) => Up_c (.slice p (bl X) c) (bl X) X (by omega) (2 * D + 4) t ht (by omega) (bl (X * 2 ^ t)) (by rw [if_neg (by omega)]; exact hAl) (by omega) w' h)
  generalize X * 2 ^ t = A at *
  have HD := Lib.hid (fun (p p' : Option Addr) (c c' : Nat) (w' : World) (h : RN w' (.slice p (bl A) c) (bl A) A) (h' : RN w' (.slice p' (bl Y) c') (bl Y) Y) => Divide_c (.slice p (bl A) c) (.slice p' (bl Y) c') A Y hA0 hY0 (by omega) (by omega) w' h h')
  have hNb : bl (A / Y) ≤ 1000 := by
    have := bl_mono_le (A / Y) (bl A) (Nat.lt_of_le_of_lt (Nat.div_le_self _ _) (bl_lt A)); omega
  generalize A / Y = N at *
  obtain ⟨mo, hmo⟩ : ∃ mo : Bool, mo = decide (A % Y ≠ 0) := ⟨_, rfl⟩
  rw [← hmo]
  have hmo2 : decide (0 < bl (A % Y)) = mo := by
    rw [hmo, Bool.eq_iff_iff]
    simp only [decide_eq_true_eq]
    constructor
    · intro h q; rw [q, show bl 0 = 0 from rfl] at h; omega
    · intro h; have := bl_pos _ h; omega
  have HR := Lib.hid (fun (p : Option Addr) (c : Nat) (w' : World) (h : RN w' (.slice p (bl N) c) (bl N) N) => Rounded_c k W D E mode (sgX sx sy) N (ex - ey - 2 * D - 4) mo (.slice p (bl N) c) hk hm (sgX_s sx sy) (fun q => by rw [q, show bl 0 = 0 from rfl] at hbig; omega) (by omega) (by omega) (by omega) (fun _ => by unfold lastF; omega) w' h)
  clear hmo
  generalize A % Y = R at *
  have v1 : IntKind.i64.wrap (2 * D) = 2 * D := IntWalk.i64_in _ (by omega)
  have v2 : IntKind.i64.wrap (2 * D + 4) = 2 * D + 4 := IntWalk.i64_in _ (by omega)
  have v3 : IntKind.i64.wrap (ex - ey) = ex - ey := IntWalk.i64_in _ (by omega)
  have v4 : IntKind.i64.wrap (ex - ey - 2 * D) = ex - ey - 2 * D := IntWalk.i64_in _ (by omega)
  have v5 : IntKind.i64.wrap (ex - ey - 2 * D - 4) = ex - ey - 2 * D - 4 := IntWalk.i64_in _ (by omega)
  have Ht := Lib.hid ht; clear ht
  clear hbig hNb hAl hA0 hX0 hY0 hm hX54 hY54 hX1
  have Hk := Lib.hid hk; clear hk
  have Hq := Lib.hid hq; clear hq
  have Hx := Lib.hid hx; clear hx
  have Hy := Lib.hid hy; clear hy
  have hsg := sgX_s sx sy
  have ep := sgX_p sx sy hsx hsy
  generalize sgX sx sy = sg at *
  have Hsg := Lib.hid hsg; clear hsg
  obtain ⟨ep1, ep2⟩ := ep
  have sx0 : 0 ≤ sx := by unfold Sgn at hsx; omega
  have sx1 : sx ≤ 1 := by unfold Sgn at hsx; omega
  have sy0 : 0 ≤ sy := by unfold Sgn at hsy; omega
  have sy1 : sy ≤ 1 := by unfold Sgn at hsy; omega
  have Hsx := Lib.hid hsx; clear hsx
  have Hsy := Lib.hid hsy; clear hsy
  go_enter Tryd.func23, Tryd.ntmps23
  go_wp2_with fail
  refine (Hq.out _).mono ?_
  rintro e w0 ⟨rfl, rfl⟩
  go_wp2_with fail
  refine (Hx.out _).mono ?_
  rintro e w1 ⟨px, cx, rfl, rx, hB⟩
  go_wp2_with fail
  refine (Hy.out _).mono ?_
  rintro e w2 ⟨py, cy, rfl, ry, hb⟩
  have rx := rx.keep hb
  have hB := bt hB hb
  have hbb : Below w2.heap.size w2 ((w2.alloc (.cells (List.toArray [.string ⟨#[102, 105, 110, 105, 116, 101]⟩, .int .i64 sx, .slice px (bl X) cx, .int .i64 ex]) 53)).alloc (.cells (List.toArray [.string ⟨#[102, 105, 110, 105, 116, 101]⟩, .int .i64 sy, .slice py (bl Y) cy, .int .i64 ey]) 53)) := by go_grown
  have rx := rx.keep hbb
  have ry := ry.keep hbb
  have hB := bt hB hbb
  have hX := (Has.new w2 [.string ⟨#[102, 105, 110, 105, 116, 101]⟩, .int .i64 sx, .slice px (bl X) cx, .int .i64 ex] 53).alloc (.cells (List.toArray [.string ⟨#[102, 105, 110, 105, 116, 101]⟩, .int .i64 sy, .slice py (bl Y) cy, .int .i64 ey]) 53)
  have hY := Has.new1 w2 (.cells (List.toArray [.string ⟨#[102, 105, 110, 105, 116, 101]⟩, .int .i64 sx, .slice px (bl X) cx, .int .i64 ex]) 53) [.string ⟨#[102, 105, 110, 105, 116, 101]⟩, .int .i64 sy, .slice py (bl Y) cy, .int .i64 ey] 53
  obtain ⟨x0, x1, x2, x3⟩ := hX.c4
  obtain ⟨y0, y1, y2, y3⟩ := hY.c4
  clear hb hbb
  go_wp2_with fail
  have hs0 : SM w _ (.slice px (bl X) cx) (.slice py (bl Y) cy) (bl X) X (bl Y) Y := ⟨hB, rx, ry⟩
  clear hX hY hB rx ry x0 y0
  go_region_held3 (fun w' => SM w w' (.slice px (bl X) cx) (.slice py (bl Y) cy) (bl X) X (bl Y) Y ∧ w'.cell? ⟨w2.heap.size, 1, none⟩ = some (.int .i64 sx) ∧ w'.cell? ⟨w2.heap.size, 2, none⟩ = some (.slice px (bl X) cx) ∧ w'.cell? ⟨w2.heap.size, 3, none⟩ = some (.int .i64 ex) ∧ w'.cell? ⟨w2.heap.size + 1, 1, none⟩ = some (.int .i64 sy) ∧ w'.cell? ⟨w2.heap.size + 1, 2, none⟩ = some (.slice py (bl Y) cy) ∧ w'.cell? ⟨w2.heap.size + 1, 3, none⟩ = some (.int .i64 ey))
    (first | exact ⟨hs0, x1, x2, x3, y1, y2, y3⟩ | exact sm_drew ⟨hs0, x1, x2, x3, y1, y2, y3⟩ | exact sm_keep (by assumption) hb | assumption)
    (first | (go_at_call 67; refine (rDigits_c k W D E Hk.out _).mono ?_; rintro e' w' ⟨rfl, rfl⟩) | (go_at_call 55; refine (UPX.out _ _ _ (sm_x (by assumption))).mono ?_; rintro e' w' ⟨p1, c1, rfl, h1, hb⟩) | (go_at_call 66; refine (HD.out _ _ _ _ _ (by first | exact h1 | exact RN.drewn h1 | assumption) (sm_y (by assumption))).mono ?_; rintro e' w' ⟨p2, c2, p3, c3, rfl, h2, h3, hb⟩))
  all_goals
    rename_i hH
    clear hs0 x1 x2 x3 y1 y2 y3
    obtain ⟨hs0, x1, x2, x3, y1, y2, y3⟩ := hH
    go_wp2_with fail
    go_region_held3 (fun w' => SM w w' (.slice px (bl X) cx) (.slice py (bl Y) cy) (bl X) X (bl Y) Y ∧ w'.cell? ⟨w2.heap.size, 1, none⟩ = some (.int .i64 sx) ∧ w'.cell? ⟨w2.heap.size, 2, none⟩ = some (.slice px (bl X) cx) ∧ w'.cell? ⟨w2.heap.size, 3, none⟩ = some (.int .i64 ex) ∧ w'.cell? ⟨w2.heap.size + 1, 1, none⟩ = some (.int .i64 sy) ∧ w'.cell? ⟨w2.heap.size + 1, 2, none⟩ = some (.slice py (bl Y) cy) ∧ w'.cell? ⟨w2.heap.size + 1, 3, none⟩ = some (.int .i64 ey))
      (first | exact ⟨hs0, x1, x2, x3, y1, y2, y3⟩ | exact sm_drew ⟨hs0, x1, x2, x3, y1, y2, y3⟩ | exact sm_keep (by assumption) hb | assumption)
      (first | (go_at_call 67; refine (rDigits_c k W D E Hk.out _).mono ?_; rintro e' w' ⟨rfl, rfl⟩) | (go_at_call 60; refine (HR.out _ _ _ (by first | exact h2 | exact RN.drewn h2 | assumption)).mono ?_; rintro e' w' ⟨rfl, hb⟩))
    all_goals
      rename_i hH
      have hB := hH.1.1
      clear hH
      go_wp2_with fail
      go_ret3
      exact ⟨rfl, hB⟩

end Go.Proofs.YtfdenbgmogojeaaDoor

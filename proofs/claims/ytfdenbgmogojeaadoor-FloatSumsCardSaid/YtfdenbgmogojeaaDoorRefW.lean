/- Contract of quadratref01's Add of two finite floats or zeros: the exact sum, rounded. -/
import Derived.Test.YtfdenbgmogojeaaDoorRefS
import Derived.Test.YtfdenbgmogojeaaDoorFloDc
import Derived.Deep.DeepCutAuto
namespace Go.Proofs.YtfdenbgmogojeaaDoor
open Go.RowKit

/-- What taken gives, as numbers. -/
def Tk (k a : Int) (wx : ByteArray) (s : Int) (M : Nat) (ex : Int) : Prop :=
  ∀ w, Calls Tryd.prog 52 #[.int .i64 k, .int .i64 a] w fun e w' => ∃ p c, e = .returned (.agg #[.string wx, .int .i64 s, .slice p (bl M) c, .int .i64 ex]) ∧ RN w' (.slice p (bl M) c) (bl M) M ∧ Below w.heap.size w w'
theorem tk_of (k W D E a : Int) (hk : KK k W D E) (hv : okB W a = true) : Tk k a (whS (cls D (siz W a))) (rS W D a) (mant D (siz W a)).toNat (rE D (siz W a)) := fun w => by
  refine (taken_c k W D E a hk hv w).mono ?_
  rintro e w' ⟨v, rfl, hown, hb⟩
  have hr := RN.of hown
  obtain ⟨p, c, rfl⟩ := hr.slice
  exact ⟨p, c, rfl, hr, hb⟩

set_option maxRecDepth 100000 in
set_option maxHeartbeats 2000000 in
theorem rAdd_n (k W D E mode a b : Int) (wy : ByteArray) (sx sy ex ey : Int) (X Y : Nat) (hk : KK k W D E) (hq : ∀ w, Calls Tryd.prog 51 #[.int .i64 k, .int .i64 mode, .int .i64 a, .int .i64 b] w fun e w' => e = .returned (.bool true) ∧ w = w')
    (hx : Tk k a ⟨#[110, 111, 110, 101]⟩ sx X ex) (hy : Tk k b wy sy Y ey)  (w : World) :
    Calls Tryd.prog 16 #[.int .i64 k, .int .i64 mode, .int .i64 a, .int .i64 b] w fun e w' => e = .returned (.tuple #[.int .i64 (jn W 0 (qz D)), .int .i64 0, .int .i64 0]) ∧ Below w.heap.size w w' := by
  have Hk := Lib.hid hk; clear hk
  have Hq := Lib.hid hq; clear hq
  have Hx := Lib.hid hx; clear hx
  have Hy := Lib.hid hy; clear hy
  go_enter Tryd.func16, Tryd.ntmps16
  go_wp2_with fail
  refine (Hq.out _).mono ?_
  rintro e w0 ⟨rfl, rfl⟩
  go_wp2_with fail
  refine (Hx.out _).mono ?_
  rintro e w1 ⟨px, cx, rfl, rx, hB⟩
  go_wp2_with fail
  refine (Hy.out _).mono ?_
  rintro e w2 ⟨py, cy, rfl, ry, hb⟩
  have rx := rx.keep hb
  have hB := bt hB hb
  have hbb : Below w2.heap.size w2 ((w2.alloc (.cells (List.toArray [.string ⟨#[110, 111, 110, 101]⟩, .int .i64 sx, .slice px (bl X) cx, .int .i64 ex]) 53)).alloc (.cells (List.toArray [.string wy, .int .i64 sy, .slice py (bl Y) cy, .int .i64 ey]) 53)) := by go_grown
  have rx := rx.keep hbb
  have ry := ry.keep hbb
  have hB := bt hB hbb
  have hX := (Has.new w2 [.string ⟨#[110, 111, 110, 101]⟩, .int .i64 sx, .slice px (bl X) cx, .int .i64 ex] 53).alloc (.cells (List.toArray [.string wy, .int .i64 sy, .slice py (bl Y) cy, .int .i64 ey]) 53)
  have hY := Has.new1 w2 (.cells (List.toArray [.string ⟨#[110, 111, 110, 101]⟩, .int .i64 sx, .slice px (bl X) cx, .int .i64 ex]) 53) [.string wy, .int .i64 sy, .slice py (bl Y) cy, .int .i64 ey] 53
  obtain ⟨x0, x1, x2, x3⟩ := hX.c4
  obtain ⟨y0, y1, y2, y3⟩ := hY.c4
  clear hb hbb
  go_wp2_with fail
  refine (rQuiet_c k W D E Hk.out _).mono ?_
  rintro e w3 ⟨rfl, hb⟩
  have hB := bt hB hb
  go_wp2_with fail
  go_ret3
  exact ⟨rfl, hB⟩

set_option maxRecDepth 100000 in
set_option maxHeartbeats 2000000 in
theorem rAdd_in (k W D E mode a b : Int)  (sx sy ex ey : Int) (X Y : Nat) (hk : KK k W D E) (hq : ∀ w, Calls Tryd.prog 51 #[.int .i64 k, .int .i64 mode, .int .i64 a, .int .i64 b] w fun e w' => e = .returned (.bool true) ∧ w = w')
    (hx : Tk k a ⟨#[105, 110, 102, 105, 110, 105, 116, 101]⟩ sx X ex) (hy : Tk k b ⟨#[110, 111, 110, 101]⟩ sy Y ey)  (w : World) :
    Calls Tryd.prog 16 #[.int .i64 k, .int .i64 mode, .int .i64 a, .int .i64 b] w fun e w' => e = .returned (.tuple #[.int .i64 (jn W 0 (qz D)), .int .i64 0, .int .i64 0]) ∧ Below w.heap.size w w' := by
  have Hk := Lib.hid hk; clear hk
  have Hq := Lib.hid hq; clear hq
  have Hx := Lib.hid hx; clear hx
  have Hy := Lib.hid hy; clear hy
  go_enter Tryd.func16, Tryd.ntmps16
  go_wp2_with fail
  refine (Hq.out _).mono ?_
  rintro e w0 ⟨rfl, rfl⟩
  go_wp2_with fail
  refine (Hx.out _).mono ?_
  rintro e w1 ⟨px, cx, rfl, rx, hB⟩
  go_wp2_with fail
  refine (Hy.out _).mono ?_
  rintro e w2 ⟨py, cy, rfl, ry, hb⟩
  have rx := rx.keep hb
  have hB := bt hB hb
  have hbb : Below w2.heap.size w2 ((w2.alloc (.cells (List.toArray [.string ⟨#[105, 110, 102, 105, 110, 105, 116, 101]⟩, .int .i64 sx, .slice px (bl X) cx, .int .i64 ex]) 53)).alloc (.cells (List.toArray [.string ⟨#[110, 111, 110, 101]⟩, .int .i64 sy, .slice py (bl Y) cy, .int .i64 ey]) 53)) := by go_grown
  have rx := rx.keep hbb
  have ry := ry.keep hbb
  have hB := bt hB hbb
  have hX := (Has.new w2 [.string ⟨#[105, 110, 102, 105, 110, 105, 116, 101]⟩, .int .i64 sx, .slice px (bl X) cx, .int .i64 ex] 53).alloc (.cells (List.toArray [.string ⟨#[110, 111, 110, 101]⟩, .int .i64 sy, .slice py (bl Y) cy, .int .i64 ey]) 53)
  have hY := Has.new1 w2 (.cells (List.toArray [.string ⟨#[105, 110, 102, 105, 110, 105, 116, 101]⟩, .int .i64 sx, .slice px (bl X) cx, .int .i64 ex]) 53) [.string ⟨#[110, 111, 110, 101]⟩, .int .i64 sy, .slice py (bl Y) cy, .int .i64 ey] 53
  obtain ⟨x0, x1, x2, x3⟩ := hX.c4
  obtain ⟨y0, y1, y2, y3⟩ := hY.c4
  clear hb hbb
  go_wp2_with fail
  refine (rQuiet_c k W D E Hk.out _).mono ?_
  rintro e w3 ⟨rfl, hb⟩
  have hB := bt hB hb
  go_wp2_with fail
  go_ret3
  exact ⟨rfl, hB⟩

set_option maxRecDepth 100000 in
set_option maxHeartbeats 2000000 in
theorem rAdd_zn (k W D E mode a b : Int)  (sx sy ex ey : Int) (X Y : Nat) (hk : KK k W D E) (hq : ∀ w, Calls Tryd.prog 51 #[.int .i64 k, .int .i64 mode, .int .i64 a, .int .i64 b] w fun e w' => e = .returned (.bool true) ∧ w = w')
    (hx : Tk k a ⟨#[122, 101, 114, 111]⟩ sx X ex) (hy : Tk k b ⟨#[110, 111, 110, 101]⟩ sy Y ey)  (w : World) :
    Calls Tryd.prog 16 #[.int .i64 k, .int .i64 mode, .int .i64 a, .int .i64 b] w fun e w' => e = .returned (.tuple #[.int .i64 (jn W 0 (qz D)), .int .i64 0, .int .i64 0]) ∧ Below w.heap.size w w' := by
  have Hk := Lib.hid hk; clear hk
  have Hq := Lib.hid hq; clear hq
  have Hx := Lib.hid hx; clear hx
  have Hy := Lib.hid hy; clear hy
  go_enter Tryd.func16, Tryd.ntmps16
  go_wp2_with fail
  refine (Hq.out _).mono ?_
  rintro e w0 ⟨rfl, rfl⟩
  go_wp2_with fail
  refine (Hx.out _).mono ?_
  rintro e w1 ⟨px, cx, rfl, rx, hB⟩
  go_wp2_with fail
  refine (Hy.out _).mono ?_
  rintro e w2 ⟨py, cy, rfl, ry, hb⟩
  have rx := rx.keep hb
  have hB := bt hB hb
  have hbb : Below w2.heap.size w2 ((w2.alloc (.cells (List.toArray [.string ⟨#[122, 101, 114, 111]⟩, .int .i64 sx, .slice px (bl X) cx, .int .i64 ex]) 53)).alloc (.cells (List.toArray [.string ⟨#[110, 111, 110, 101]⟩, .int .i64 sy, .slice py (bl Y) cy, .int .i64 ey]) 53)) := by go_grown
  have rx := rx.keep hbb
  have ry := ry.keep hbb
  have hB := bt hB hbb
  have hX := (Has.new w2 [.string ⟨#[122, 101, 114, 111]⟩, .int .i64 sx, .slice px (bl X) cx, .int .i64 ex] 53).alloc (.cells (List.toArray [.string ⟨#[110, 111, 110, 101]⟩, .int .i64 sy, .slice py (bl Y) cy, .int .i64 ey]) 53)
  have hY := Has.new1 w2 (.cells (List.toArray [.string ⟨#[122, 101, 114, 111]⟩, .int .i64 sx, .slice px (bl X) cx, .int .i64 ex]) 53) [.string ⟨#[110, 111, 110, 101]⟩, .int .i64 sy, .slice py (bl Y) cy, .int .i64 ey] 53
  obtain ⟨x0, x1, x2, x3⟩ := hX.c4
  obtain ⟨y0, y1, y2, y3⟩ := hY.c4
  clear hb hbb
  go_wp2_with fail
  refine (rQuiet_c k W D E Hk.out _).mono ?_
  rintro e w3 ⟨rfl, hb⟩
  have hB := bt hB hb
  go_wp2_with fail
  go_ret3
  exact ⟨rfl, hB⟩

set_option maxRecDepth 100000 in
set_option maxHeartbeats 2000000 in
theorem rAdd_fn (k W D E mode a b : Int)  (sx sy ex ey : Int) (X Y : Nat) (hk : KK k W D E) (hq : ∀ w, Calls Tryd.prog 51 #[.int .i64 k, .int .i64 mode, .int .i64 a, .int .i64 b] w fun e w' => e = .returned (.bool true) ∧ w = w')
    (hx : Tk k a ⟨#[102, 105, 110, 105, 116, 101]⟩ sx X ex) (hy : Tk k b ⟨#[110, 111, 110, 101]⟩ sy Y ey)  (w : World) :
    Calls Tryd.prog 16 #[.int .i64 k, .int .i64 mode, .int .i64 a, .int .i64 b] w fun e w' => e = .returned (.tuple #[.int .i64 (jn W 0 (qz D)), .int .i64 0, .int .i64 0]) ∧ Below w.heap.size w w' := by
  have Hk := Lib.hid hk; clear hk
  have Hq := Lib.hid hq; clear hq
  have Hx := Lib.hid hx; clear hx
  have Hy := Lib.hid hy; clear hy
  go_enter Tryd.func16, Tryd.ntmps16
  go_wp2_with fail
  refine (Hq.out _).mono ?_
  rintro e w0 ⟨rfl, rfl⟩
  go_wp2_with fail
  refine (Hx.out _).mono ?_
  rintro e w1 ⟨px, cx, rfl, rx, hB⟩
  go_wp2_with fail
  refine (Hy.out _).mono ?_
  rintro e w2 ⟨py, cy, rfl, ry, hb⟩
  have rx := rx.keep hb
  have hB := bt hB hb
  have hbb : Below w2.heap.size w2 ((w2.alloc (.cells (List.toArray [.string ⟨#[102, 105, 110, 105, 116, 101]⟩, .int .i64 sx, .slice px (bl X) cx, .int .i64 ex]) 53)).alloc (.cells (List.toArray [.string ⟨#[110, 111, 110, 101]⟩, .int .i64 sy, .slice py (bl Y) cy, .int .i64 ey]) 53)) := by go_grown
  have rx := rx.keep hbb
  have ry := ry.keep hbb
  have hB := bt hB hbb
  have hX := (Has.new w2 [.string ⟨#[102, 105, 110, 105, 116, 101]⟩, .int .i64 sx, .slice px (bl X) cx, .int .i64 ex] 53).alloc (.cells (List.toArray [.string ⟨#[110, 111, 110, 101]⟩, .int .i64 sy, .slice py (bl Y) cy, .int .i64 ey]) 53)
  have hY := Has.new1 w2 (.cells (List.toArray [.string ⟨#[102, 105, 110, 105, 116, 101]⟩, .int .i64 sx, .slice px (bl X) cx, .int .i64 ex]) 53) [.string ⟨#[110, 111, 110, 101]⟩, .int .i64 sy, .slice py (bl Y) cy, .int .i64 ey] 53
  obtain ⟨x0, x1, x2, x3⟩ := hX.c4
  obtain ⟨y0, y1, y2, y3⟩ := hY.c4
  clear hb hbb
  go_wp2_with fail
  refine (rQuiet_c k W D E Hk.out _).mono ?_
  rintro e w3 ⟨rfl, hb⟩
  have hB := bt hB hb
  go_wp2_with fail
  go_ret3
  exact ⟨rfl, hB⟩

set_option maxRecDepth 100000 in
set_option maxHeartbeats 2000000 in
theorem rAdd_opp (k W D E mode a b : Int)  (sx sy ex ey : Int) (X Y : Nat) (hk : KK k W D E) (hq : ∀ w, Calls Tryd.prog 51 #[.int .i64 k, .int .i64 mode, .int .i64 a, .int .i64 b] w fun e w' => e = .returned (.bool true) ∧ w = w')
    (hx : Tk k a ⟨#[105, 110, 102, 105, 110, 105, 116, 101]⟩ sx X ex) (hy : Tk k b ⟨#[105, 110, 102, 105, 110, 105, 116, 101]⟩ sy Y ey) (hs : (sx != sy) = true) (w : World) :
    Calls Tryd.prog 16 #[.int .i64 k, .int .i64 mode, .int .i64 a, .int .i64 b] w fun e w' => e = .returned (.tuple #[.int .i64 (jn W 0 (qz D)), .int .i64 1, .int .i64 0]) ∧ Below w.heap.size w w' := by
  have Hk := Lib.hid hk; clear hk
  have Hq := Lib.hid hq; clear hq
  have Hx := Lib.hid hx; clear hx
  have Hy := Lib.hid hy; clear hy
  go_enter Tryd.func16, Tryd.ntmps16
  go_wp2_with fail
  refine (Hq.out _).mono ?_
  rintro e w0 ⟨rfl, rfl⟩
  go_wp2_with fail
  refine (Hx.out _).mono ?_
  rintro e w1 ⟨px, cx, rfl, rx, hB⟩
  go_wp2_with fail
  refine (Hy.out _).mono ?_
  rintro e w2 ⟨py, cy, rfl, ry, hb⟩
  have rx := rx.keep hb
  have hB := bt hB hb
  have hbb : Below w2.heap.size w2 ((w2.alloc (.cells (List.toArray [.string ⟨#[105, 110, 102, 105, 110, 105, 116, 101]⟩, .int .i64 sx, .slice px (bl X) cx, .int .i64 ex]) 53)).alloc (.cells (List.toArray [.string ⟨#[105, 110, 102, 105, 110, 105, 116, 101]⟩, .int .i64 sy, .slice py (bl Y) cy, .int .i64 ey]) 53)) := by go_grown
  have rx := rx.keep hbb
  have ry := ry.keep hbb
  have hB := bt hB hbb
  have hX := (Has.new w2 [.string ⟨#[105, 110, 102, 105, 110, 105, 116, 101]⟩, .int .i64 sx, .slice px (bl X) cx, .int .i64 ex] 53).alloc (.cells (List.toArray [.string ⟨#[105, 110, 102, 105, 110, 105, 116, 101]⟩, .int .i64 sy, .slice py (bl Y) cy, .int .i64 ey]) 53)
  have hY := Has.new1 w2 (.cells (List.toArray [.string ⟨#[105, 110, 102, 105, 110, 105, 116, 101]⟩, .int .i64 sx, .slice px (bl X) cx, .int .i64 ex]) 53) [.string ⟨#[105, 110, 102, 105, 110, 105, 116, 101]⟩, .int .i64 sy, .slice py (bl Y) cy, .int .i64 ey] 53
  obtain ⟨x0, x1, x2, x3⟩ := hX.c4
  obtain ⟨y0, y1, y2, y3⟩ := hY.c4
  clear hb hbb
  go_wp2_with fail
  refine (rQuiet_c k W D E Hk.out _).mono ?_
  rintro e w3 ⟨rfl, hb⟩
  have hB := bt hB hb
  go_wp2_with fail
  go_ret3
  exact ⟨rfl, hB⟩

set_option maxRecDepth 100000 in
set_option maxHeartbeats 2000000 in
theorem rAdd_ii (k W D E mode a b : Int)  (sx sy ex ey : Int) (X Y : Nat) (hk : KK k W D E) (hq : ∀ w, Calls Tryd.prog 51 #[.int .i64 k, .int .i64 mode, .int .i64 a, .int .i64 b] w fun e w' => e = .returned (.bool true) ∧ w = w')
    (hx : Tk k a ⟨#[105, 110, 102, 105, 110, 105, 116, 101]⟩ sx X ex) (hy : Tk k b ⟨#[105, 110, 102, 105, 110, 105, 116, 101]⟩ sy Y ey) (hs : (sx != sy) = false) (hsx : Sgn sx) (w : World) :
    Calls Tryd.prog 16 #[.int .i64 k, .int .i64 mode, .int .i64 a, .int .i64 b] w fun e w' => e = .returned (.tuple #[.int .i64 (jn W sx (endl D)), .int .i64 0, .int .i64 0]) ∧ Below w.heap.size w w' := by
  have Hk := Lib.hid hk; clear hk
  have Hq := Lib.hid hq; clear hq
  have Hx := Lib.hid hx; clear hx
  have Hy := Lib.hid hy; clear hy
  have Hsx := Lib.hid hsx; clear hsx
  go_enter Tryd.func16, Tryd.ntmps16
  go_wp2_with fail
  refine (Hq.out _).mono ?_
  rintro e w0 ⟨rfl, rfl⟩
  go_wp2_with fail
  refine (Hx.out _).mono ?_
  rintro e w1 ⟨px, cx, rfl, rx, hB⟩
  go_wp2_with fail
  refine (Hy.out _).mono ?_
  rintro e w2 ⟨py, cy, rfl, ry, hb⟩
  have rx := rx.keep hb
  have hB := bt hB hb
  have hbb : Below w2.heap.size w2 ((w2.alloc (.cells (List.toArray [.string ⟨#[105, 110, 102, 105, 110, 105, 116, 101]⟩, .int .i64 sx, .slice px (bl X) cx, .int .i64 ex]) 53)).alloc (.cells (List.toArray [.string ⟨#[105, 110, 102, 105, 110, 105, 116, 101]⟩, .int .i64 sy, .slice py (bl Y) cy, .int .i64 ey]) 53)) := by go_grown
  have rx := rx.keep hbb
  have ry := ry.keep hbb
  have hB := bt hB hbb
  have hX := (Has.new w2 [.string ⟨#[105, 110, 102, 105, 110, 105, 116, 101]⟩, .int .i64 sx, .slice px (bl X) cx, .int .i64 ex] 53).alloc (.cells (List.toArray [.string ⟨#[105, 110, 102, 105, 110, 105, 116, 101]⟩, .int .i64 sy, .slice py (bl Y) cy, .int .i64 ey]) 53)
  have hY := Has.new1 w2 (.cells (List.toArray [.string ⟨#[105, 110, 102, 105, 110, 105, 116, 101]⟩, .int .i64 sx, .slice px (bl X) cx, .int .i64 ex]) 53) [.string ⟨#[105, 110, 102, 105, 110, 105, 116, 101]⟩, .int .i64 sy, .slice py (bl Y) cy, .int .i64 ey] 53
  obtain ⟨x0, x1, x2, x3⟩ := hX.c4
  obtain ⟨y0, y1, y2, y3⟩ := hY.c4
  clear hb hbb
  go_wp2_with fail
  refine (rInfinite_c k W D E sx Hk.out Hsx.out _).mono ?_
  rintro e w3 ⟨rfl, hb⟩
  have hB := bt hB hb
  go_wp2_with fail
  go_ret3
  exact ⟨rfl, hB⟩

set_option maxRecDepth 100000 in
set_option maxHeartbeats 2000000 in
theorem rAdd_iz (k W D E mode a b : Int)  (sx sy ex ey : Int) (X Y : Nat) (hk : KK k W D E) (hq : ∀ w, Calls Tryd.prog 51 #[.int .i64 k, .int .i64 mode, .int .i64 a, .int .i64 b] w fun e w' => e = .returned (.bool true) ∧ w = w')
    (hx : Tk k a ⟨#[105, 110, 102, 105, 110, 105, 116, 101]⟩ sx X ex) (hy : Tk k b ⟨#[122, 101, 114, 111]⟩ sy Y ey) (hsx : Sgn sx) (w : World) :
    Calls Tryd.prog 16 #[.int .i64 k, .int .i64 mode, .int .i64 a, .int .i64 b] w fun e w' => e = .returned (.tuple #[.int .i64 (jn W sx (endl D)), .int .i64 0, .int .i64 0]) ∧ Below w.heap.size w w' := by
  have Hk := Lib.hid hk; clear hk
  have Hq := Lib.hid hq; clear hq
  have Hx := Lib.hid hx; clear hx
  have Hy := Lib.hid hy; clear hy
  have Hsx := Lib.hid hsx; clear hsx
  go_enter Tryd.func16, Tryd.ntmps16
  go_wp2_with fail
  refine (Hq.out _).mono ?_
  rintro e w0 ⟨rfl, rfl⟩
  go_wp2_with fail
  refine (Hx.out _).mono ?_
  rintro e w1 ⟨px, cx, rfl, rx, hB⟩
  go_wp2_with fail
  refine (Hy.out _).mono ?_
  rintro e w2 ⟨py, cy, rfl, ry, hb⟩
  have rx := rx.keep hb
  have hB := bt hB hb
  have hbb : Below w2.heap.size w2 ((w2.alloc (.cells (List.toArray [.string ⟨#[105, 110, 102, 105, 110, 105, 116, 101]⟩, .int .i64 sx, .slice px (bl X) cx, .int .i64 ex]) 53)).alloc (.cells (List.toArray [.string ⟨#[122, 101, 114, 111]⟩, .int .i64 sy, .slice py (bl Y) cy, .int .i64 ey]) 53)) := by go_grown
  have rx := rx.keep hbb
  have ry := ry.keep hbb
  have hB := bt hB hbb
  have hX := (Has.new w2 [.string ⟨#[105, 110, 102, 105, 110, 105, 116, 101]⟩, .int .i64 sx, .slice px (bl X) cx, .int .i64 ex] 53).alloc (.cells (List.toArray [.string ⟨#[122, 101, 114, 111]⟩, .int .i64 sy, .slice py (bl Y) cy, .int .i64 ey]) 53)
  have hY := Has.new1 w2 (.cells (List.toArray [.string ⟨#[105, 110, 102, 105, 110, 105, 116, 101]⟩, .int .i64 sx, .slice px (bl X) cx, .int .i64 ex]) 53) [.string ⟨#[122, 101, 114, 111]⟩, .int .i64 sy, .slice py (bl Y) cy, .int .i64 ey] 53
  obtain ⟨x0, x1, x2, x3⟩ := hX.c4
  obtain ⟨y0, y1, y2, y3⟩ := hY.c4
  clear hb hbb
  go_wp2_with fail
  refine (rInfinite_c k W D E sx Hk.out Hsx.out _).mono ?_
  rintro e w3 ⟨rfl, hb⟩
  have hB := bt hB hb
  go_wp2_with fail
  go_ret3
  exact ⟨rfl, hB⟩

set_option maxRecDepth 100000 in
set_option maxHeartbeats 2000000 in
theorem rAdd_if (k W D E mode a b : Int)  (sx sy ex ey : Int) (X Y : Nat) (hk : KK k W D E) (hq : ∀ w, Calls Tryd.prog 51 #[.int .i64 k, .int .i64 mode, .int .i64 a, .int .i64 b] w fun e w' => e = .returned (.bool true) ∧ w = w')
    (hx : Tk k a ⟨#[105, 110, 102, 105, 110, 105, 116, 101]⟩ sx X ex) (hy : Tk k b ⟨#[102, 105, 110, 105, 116, 101]⟩ sy Y ey) (hsx : Sgn sx) (w : World) :
    Calls Tryd.prog 16 #[.int .i64 k, .int .i64 mode, .int .i64 a, .int .i64 b] w fun e w' => e = .returned (.tuple #[.int .i64 (jn W sx (endl D)), .int .i64 0, .int .i64 0]) ∧ Below w.heap.size w w' := by
  have Hk := Lib.hid hk; clear hk
  have Hq := Lib.hid hq; clear hq
  have Hx := Lib.hid hx; clear hx
  have Hy := Lib.hid hy; clear hy
  have Hsx := Lib.hid hsx; clear hsx
  go_enter Tryd.func16, Tryd.ntmps16
  go_wp2_with fail
  refine (Hq.out _).mono ?_
  rintro e w0 ⟨rfl, rfl⟩
  go_wp2_with fail
  refine (Hx.out _).mono ?_
  rintro e w1 ⟨px, cx, rfl, rx, hB⟩
  go_wp2_with fail
  refine (Hy.out _).mono ?_
  rintro e w2 ⟨py, cy, rfl, ry, hb⟩
  have rx := rx.keep hb
  have hB := bt hB hb
  have hbb : Below w2.heap.size w2 ((w2.alloc (.cells (List.toArray [.string ⟨#[105, 110, 102, 105, 110, 105, 116, 101]⟩, .int .i64 sx, .slice px (bl X) cx, .int .i64 ex]) 53)).alloc (.cells (List.toArray [.string ⟨#[102, 105, 110, 105, 116, 101]⟩, .int .i64 sy, .slice py (bl Y) cy, .int .i64 ey]) 53)) := by go_grown
  have rx := rx.keep hbb
  have ry := ry.keep hbb
  have hB := bt hB hbb
  have hX := (Has.new w2 [.string ⟨#[105, 110, 102, 105, 110, 105, 116, 101]⟩, .int .i64 sx, .slice px (bl X) cx, .int .i64 ex] 53).alloc (.cells (List.toArray [.string ⟨#[102, 105, 110, 105, 116, 101]⟩, .int .i64 sy, .slice py (bl Y) cy, .int .i64 ey]) 53)
  have hY := Has.new1 w2 (.cells (List.toArray [.string ⟨#[105, 110, 102, 105, 110, 105, 116, 101]⟩, .int .i64 sx, .slice px (bl X) cx, .int .i64 ex]) 53) [.string ⟨#[102, 105, 110, 105, 116, 101]⟩, .int .i64 sy, .slice py (bl Y) cy, .int .i64 ey] 53
  obtain ⟨x0, x1, x2, x3⟩ := hX.c4
  obtain ⟨y0, y1, y2, y3⟩ := hY.c4
  clear hb hbb
  go_wp2_with fail
  refine (rInfinite_c k W D E sx Hk.out Hsx.out _).mono ?_
  rintro e w3 ⟨rfl, hb⟩
  have hB := bt hB hb
  go_wp2_with fail
  go_ret3
  exact ⟨rfl, hB⟩

set_option maxRecDepth 100000 in
set_option maxHeartbeats 2000000 in
theorem rAdd_zi (k W D E mode a b : Int)  (sx sy ex ey : Int) (X Y : Nat) (hk : KK k W D E) (hq : ∀ w, Calls Tryd.prog 51 #[.int .i64 k, .int .i64 mode, .int .i64 a, .int .i64 b] w fun e w' => e = .returned (.bool true) ∧ w = w')
    (hx : Tk k a ⟨#[122, 101, 114, 111]⟩ sx X ex) (hy : Tk k b ⟨#[105, 110, 102, 105, 110, 105, 116, 101]⟩ sy Y ey) (hsy : Sgn sy) (w : World) :
    Calls Tryd.prog 16 #[.int .i64 k, .int .i64 mode, .int .i64 a, .int .i64 b] w fun e w' => e = .returned (.tuple #[.int .i64 (jn W sy (endl D)), .int .i64 0, .int .i64 0]) ∧ Below w.heap.size w w' := by
  have Hk := Lib.hid hk; clear hk
  have Hq := Lib.hid hq; clear hq
  have Hx := Lib.hid hx; clear hx
  have Hy := Lib.hid hy; clear hy
  have Hsy := Lib.hid hsy; clear hsy
  go_enter Tryd.func16, Tryd.ntmps16
  go_wp2_with fail
  refine (Hq.out _).mono ?_
  rintro e w0 ⟨rfl, rfl⟩
  go_wp2_with fail
  refine (Hx.out _).mono ?_
  rintro e w1 ⟨px, cx, rfl, rx, hB⟩
  go_wp2_with fail
  refine (Hy.out _).mono ?_
  rintro e w2 ⟨py, cy, rfl, ry, hb⟩
  have rx := rx.keep hb
  have hB := bt hB hb
  have hbb : Below w2.heap.size w2 ((w2.alloc (.cells (List.toArray [.string ⟨#[122, 101, 114, 111]⟩, .int .i64 sx, .slice px (bl X) cx, .int .i64 ex]) 53)).alloc (.cells (List.toArray [.string ⟨#[105, 110, 102, 105, 110, 105, 116, 101]⟩, .int .i64 sy, .slice py (bl Y) cy, .int .i64 ey]) 53)) := by go_grown
  have rx := rx.keep hbb
  have ry := ry.keep hbb
  have hB := bt hB hbb
  have hX := (Has.new w2 [.string ⟨#[122, 101, 114, 111]⟩, .int .i64 sx, .slice px (bl X) cx, .int .i64 ex] 53).alloc (.cells (List.toArray [.string ⟨#[105, 110, 102, 105, 110, 105, 116, 101]⟩, .int .i64 sy, .slice py (bl Y) cy, .int .i64 ey]) 53)
  have hY := Has.new1 w2 (.cells (List.toArray [.string ⟨#[122, 101, 114, 111]⟩, .int .i64 sx, .slice px (bl X) cx, .int .i64 ex]) 53) [.string ⟨#[105, 110, 102, 105, 110, 105, 116, 101]⟩, .int .i64 sy, .slice py (bl Y) cy, .int .i64 ey] 53
  obtain ⟨x0, x1, x2, x3⟩ := hX.c4
  obtain ⟨y0, y1, y2, y3⟩ := hY.c4
  clear hb hbb
  go_wp2_with fail
  refine (rInfinite_c k W D E sy Hk.out Hsy.out _).mono ?_
  rintro e w3 ⟨rfl, hb⟩
  have hB := bt hB hb
  go_wp2_with fail
  go_ret3
  exact ⟨rfl, hB⟩

set_option maxRecDepth 100000 in
set_option maxHeartbeats 2000000 in
theorem rAdd_fi (k W D E mode a b : Int)  (sx sy ex ey : Int) (X Y : Nat) (hk : KK k W D E) (hq : ∀ w, Calls Tryd.prog 51 #[.int .i64 k, .int .i64 mode, .int .i64 a, .int .i64 b] w fun e w' => e = .returned (.bool true) ∧ w = w')
    (hx : Tk k a ⟨#[102, 105, 110, 105, 116, 101]⟩ sx X ex) (hy : Tk k b ⟨#[105, 110, 102, 105, 110, 105, 116, 101]⟩ sy Y ey) (hsy : Sgn sy) (w : World) :
    Calls Tryd.prog 16 #[.int .i64 k, .int .i64 mode, .int .i64 a, .int .i64 b] w fun e w' => e = .returned (.tuple #[.int .i64 (jn W sy (endl D)), .int .i64 0, .int .i64 0]) ∧ Below w.heap.size w w' := by
  have Hk := Lib.hid hk; clear hk
  have Hq := Lib.hid hq; clear hq
  have Hx := Lib.hid hx; clear hx
  have Hy := Lib.hid hy; clear hy
  have Hsy := Lib.hid hsy; clear hsy
  go_enter Tryd.func16, Tryd.ntmps16
  go_wp2_with fail
  refine (Hq.out _).mono ?_
  rintro e w0 ⟨rfl, rfl⟩
  go_wp2_with fail
  refine (Hx.out _).mono ?_
  rintro e w1 ⟨px, cx, rfl, rx, hB⟩
  go_wp2_with fail
  refine (Hy.out _).mono ?_
  rintro e w2 ⟨py, cy, rfl, ry, hb⟩
  have rx := rx.keep hb
  have hB := bt hB hb
  have hbb : Below w2.heap.size w2 ((w2.alloc (.cells (List.toArray [.string ⟨#[102, 105, 110, 105, 116, 101]⟩, .int .i64 sx, .slice px (bl X) cx, .int .i64 ex]) 53)).alloc (.cells (List.toArray [.string ⟨#[105, 110, 102, 105, 110, 105, 116, 101]⟩, .int .i64 sy, .slice py (bl Y) cy, .int .i64 ey]) 53)) := by go_grown
  have rx := rx.keep hbb
  have ry := ry.keep hbb
  have hB := bt hB hbb
  have hX := (Has.new w2 [.string ⟨#[102, 105, 110, 105, 116, 101]⟩, .int .i64 sx, .slice px (bl X) cx, .int .i64 ex] 53).alloc (.cells (List.toArray [.string ⟨#[105, 110, 102, 105, 110, 105, 116, 101]⟩, .int .i64 sy, .slice py (bl Y) cy, .int .i64 ey]) 53)
  have hY := Has.new1 w2 (.cells (List.toArray [.string ⟨#[102, 105, 110, 105, 116, 101]⟩, .int .i64 sx, .slice px (bl X) cx, .int .i64 ex]) 53) [.string ⟨#[105, 110, 102, 105, 110, 105, 116, 101]⟩, .int .i64 sy, .slice py (bl Y) cy, .int .i64 ey] 53
  obtain ⟨x0, x1, x2, x3⟩ := hX.c4
  obtain ⟨y0, y1, y2, y3⟩ := hY.c4
  clear hb hbb
  go_wp2_with fail
  refine (rInfinite_c k W D E sy Hk.out Hsy.out _).mono ?_
  rintro e w3 ⟨rfl, hb⟩
  have hB := bt hB hb
  go_wp2_with fail
  go_ret3
  exact ⟨rfl, hB⟩

set_option maxRecDepth 100000 in
set_option maxHeartbeats 2000000 in
theorem rAdd_zz (k W D E mode a b : Int)  (sx sy ex ey : Int) (X Y : Nat) (hk : KK k W D E) (hq : ∀ w, Calls Tryd.prog 51 #[.int .i64 k, .int .i64 mode, .int .i64 a, .int .i64 b] w fun e w' => e = .returned (.bool true) ∧ w = w')
    (hx : Tk k a ⟨#[122, 101, 114, 111]⟩ sx X ex) (hy : Tk k b ⟨#[122, 101, 114, 111]⟩ sy Y ey) (hs : (sx == sy) = true) (w : World) :
    Calls Tryd.prog 16 #[.int .i64 k, .int .i64 mode, .int .i64 a, .int .i64 b] w fun e w' => e = .returned (.tuple #[.int .i64 a, .int .i64 0, .int .i64 0]) ∧ Below w.heap.size w w' := by
  have Hk := Lib.hid hk; clear hk
  have Hq := Lib.hid hq; clear hq
  have Hx := Lib.hid hx; clear hx
  have Hy := Lib.hid hy; clear hy
  go_enter Tryd.func16, Tryd.ntmps16
  go_wp2_with fail
  refine (Hq.out _).mono ?_
  rintro e w0 ⟨rfl, rfl⟩
  go_wp2_with fail
  refine (Hx.out _).mono ?_
  rintro e w1 ⟨px, cx, rfl, rx, hB⟩
  go_wp2_with fail
  refine (Hy.out _).mono ?_
  rintro e w2 ⟨py, cy, rfl, ry, hb⟩
  have rx := rx.keep hb
  have hB := bt hB hb
  have hbb : Below w2.heap.size w2 ((w2.alloc (.cells (List.toArray [.string ⟨#[122, 101, 114, 111]⟩, .int .i64 sx, .slice px (bl X) cx, .int .i64 ex]) 53)).alloc (.cells (List.toArray [.string ⟨#[122, 101, 114, 111]⟩, .int .i64 sy, .slice py (bl Y) cy, .int .i64 ey]) 53)) := by go_grown
  have rx := rx.keep hbb
  have ry := ry.keep hbb
  have hB := bt hB hbb
  have hX := (Has.new w2 [.string ⟨#[122, 101, 114, 111]⟩, .int .i64 sx, .slice px (bl X) cx, .int .i64 ex] 53).alloc (.cells (List.toArray [.string ⟨#[122, 101, 114, 111]⟩, .int .i64 sy, .slice py (bl Y) cy, .int .i64 ey]) 53)
  have hY := Has.new1 w2 (.cells (List.toArray [.string ⟨#[122, 101, 114, 111]⟩, .int .i64 sx, .slice px (bl X) cx, .int .i64 ex]) 53) [.string ⟨#[122, 101, 114, 111]⟩, .int .i64 sy, .slice py (bl Y) cy, .int .i64 ey] 53
  obtain ⟨x0, x1, x2, x3⟩ := hX.c4
  obtain ⟨y0, y1, y2, y3⟩ := hY.c4
  clear hb hbb
  go_wp2_with fail
  go_ret3
  exact ⟨rfl, hB⟩

end Go.Proofs.YtfdenbgmogojeaaDoor

namespace Go.Proofs.YtfdenbgmogojeaaDoor
open Go.RowKit

def S6 (w w' : World) (u v : Value) (LA A LB B : Nat) : Prop := Below w.heap.size w w' ∧ RN w' u LA A ∧ RN w' v LB B
theorem s6_keep {w wp w' : World} {P Q : Nat} {a b c d e f u v : Value} {LA A LB B : Nat} (h : S6 w wp u v LA A LB B ∧ wp.cell? ⟨P, 1, none⟩ = some a ∧ wp.cell? ⟨P, 2, none⟩ = some b ∧ wp.cell? ⟨P, 3, none⟩ = some c ∧ wp.cell? ⟨Q, 1, none⟩ = some d ∧ wp.cell? ⟨Q, 2, none⟩ = some e ∧ wp.cell? ⟨Q, 3, none⟩ = some f) (hb : Below wp.heap.size wp w') :
    S6 w w' u v LA A LB B ∧ w'.cell? ⟨P, 1, none⟩ = some a ∧ w'.cell? ⟨P, 2, none⟩ = some b ∧ w'.cell? ⟨P, 3, none⟩ = some c ∧ w'.cell? ⟨Q, 1, none⟩ = some d ∧ w'.cell? ⟨Q, 2, none⟩ = some e ∧ w'.cell? ⟨Q, 3, none⟩ = some f := by
  obtain ⟨⟨h0, r1, r2⟩, h1, h2, h3, h4, h5, h6⟩ := h
  exact ⟨⟨bt h0 hb, r1.keep hb, r2.keep hb⟩, ck hb h1, ck hb h2, ck hb h3, ck hb h4, ck hb h5, ck hb h6⟩
theorem s6_drew {w wp : World} {P Q : Nat} {a b c d e f u v : Value} {LA A LB B : Nat} (h : S6 w wp u v LA A LB B ∧ wp.cell? ⟨P, 1, none⟩ = some a ∧ wp.cell? ⟨P, 2, none⟩ = some b ∧ wp.cell? ⟨P, 3, none⟩ = some c ∧ wp.cell? ⟨Q, 1, none⟩ = some d ∧ wp.cell? ⟨Q, 2, none⟩ = some e ∧ wp.cell? ⟨Q, 3, none⟩ = some f) :
    S6 w wp.drew u v LA A LB B ∧ wp.drew.cell? ⟨P, 1, none⟩ = some a ∧ wp.drew.cell? ⟨P, 2, none⟩ = some b ∧ wp.drew.cell? ⟨P, 3, none⟩ = some c ∧ wp.drew.cell? ⟨Q, 1, none⟩ = some d ∧ wp.drew.cell? ⟨Q, 2, none⟩ = some e ∧ wp.drew.cell? ⟨Q, 3, none⟩ = some f :=
  ⟨⟨h.1.1.drew, h.1.2.1, h.1.2.2⟩, h.2⟩
theorem up_len (X i : Nat) : bl (X * 2 ^ i) = if bl X = 0 then 0 else i + bl X := by
  split
  · rename_i c
    have := bl_lt X; rw [c] at this
    have h0 : X = 0 := by simpa using this
    rw [h0, Nat.zero_mul]; rfl
  · rename_i c
    exact bl_up X i (fun e => c (by rw [e]; rfl))

theorem RN.drewn {w : World} {v : Value} {L M : Nat} (h : RN w v L M) : RN w.drew v L M := h

theorem bl_add (m n s K : Nat) (h1 : bl m ≤ K) (h2 : bl n ≤ K) (h : s ≤ m + n) : bl s ≤ K + 1 := bl_mono_le s (K + 1) (by
  have a := Nat.lt_of_lt_of_le (bl_lt m) (Nat.pow_le_pow_right (by decide : 1 ≤ 2) h1)
  have b := Nat.lt_of_lt_of_le (bl_lt n) (Nat.pow_le_pow_right (by decide : 1 ≤ 2) h2)
  rw [Nat.pow_succ]; omega)
theorem s6_x {w w' : World} {u v : Value} {LA A LB B : Nat} {R : Prop} (h : S6 w w' u v LA A LB B ∧ R) : RN w' u LA A := h.1.2.1
theorem s6_y {w w' : World} {u v : Value} {LA A LB B : Nat} {R : Prop} (h : S6 w w' u v LA A LB B ∧ R) : RN w' v LB B := h.1.2.2
/-- What Up is asked, and what it gives. -/
def UpA (w : World) (u : Value) (t : Int) (M : Nat) : Prop := ∃ X i : Nat, RN w u (bl X) X ∧ bl X ≤ 1000000 ∧ t = (i : Int) ∧ i ≤ 1000000 ∧ M = X * 2 ^ i
theorem Up_p {u : Value} {t : Int} {M : Nat} {w : World} (h : UpA w u t M) : Calls Tryd.prog 55 #[u, .int .i64 t] w fun e w' => ∃ p c, e = .returned (.slice p (bl M) c) ∧ RN w' (.slice p (bl M) c) (bl M) M ∧ Below w.heap.size w w' := by
  obtain ⟨X, i, hr, hb, rfl, hi, rfl⟩ := h
  exact Up_c u (bl X) X hb i i rfl hi (bl (X * 2 ^ i)) (up_len X i) (fun q => by have := bl_lt X; rw [q] at this; simpa using this) w hr
set_option maxRecDepth 100000 in
set_option maxHeartbeats 8000000 in
theorem rAdd_ffs (k W D E mode a b : Int)  (sx sy ex ey : Int) (X Y : Nat) (hk : KK k W D E) (hq : ∀ w, Calls Tryd.prog 51 #[.int .i64 k, .int .i64 mode, .int .i64 a, .int .i64 b] w fun e w' => e = .returned (.bool true) ∧ w = w')
    (hx : Tk k a ⟨#[102, 105, 110, 105, 116, 101]⟩ sx X ex) (hy : Tk k b ⟨#[102, 105, 110, 105, 116, 101]⟩ sy Y ey) (hmode : Mode mode) (hsx : Sgn sx) (hsy : Sgn sy) (hX54 : X < 18014398509481984) (hY54 : Y < 18014398509481984) (hex : -1100 ≤ ex ∧ ex ≤ 1000) (hey : -1100 ≤ ey ∧ ey ≤ 1000) (lo : Int) (i j m n : Nat) (r1 r2 : Int) (hlo : lo = min ex ey) (hi : ex - lo = (i : Int)) (hj : ey - lo = (j : Int)) (hm' : m = X * 2 ^ i) (hn' : n = Y * 2 ^ j) (hres : docF W D mode sx m sy n lo = (r1, r2)) (hs : sx = sy) (w : World) :
    Calls Tryd.prog 16 #[.int .i64 k, .int .i64 mode, .int .i64 a, .int .i64 b] w fun e w' => e = .returned (.tuple #[.int .i64 r1, .int .i64 r2, .int .i64 0]) ∧ Below w.heap.size w w' := by
  have Hk := Lib.hid hk; clear hk
  have Hq := Lib.hid hq; clear hq
  have Hx := Lib.hid hx; clear hx
  have Hy := Lib.hid hy; clear hy
  have hbX : bl X ≤ 60 := bl_mono_le X 60 (by omega)
  have hbY : bl Y ≤ 60 := bl_mono_le Y 60 (by omega)
  have hij : i ≤ 3000 ∧ j ≤ 3000 ∧ -1100 ≤ lo ∧ lo ≤ 1000 := by omega
  obtain ⟨ib, jb, lo0, lo1⟩ := hij
  have v1 : IntKind.i64.wrap (ex - lo) = ex - lo := IntWalk.i64_in _ (by omega)
  have v2 : IntKind.i64.wrap (ey - lo) = ey - lo := IntWalk.i64_in _ (by omega)
  have hmb : bl m ≤ 4000 := by rw [hm', up_len]; split <;> omega
  have hnb : bl n ≤ 4000 := by rw [hn', up_len]; split <;> omega
  have Mk1 := Lib.hid (fun (w' : World) (px : Option Addr) (cx : Nat) (h : RN w' (.slice px (bl X) cx) (bl X) X) => (⟨X, i, h, by omega, hi, by omega, hm'⟩ : UpA w' (.slice px (bl X) cx) (ex - lo) m))
  have Mk2 := Lib.hid (fun (w' : World) (py : Option Addr) (cy : Nat) (h : RN w' (.slice py (bl Y) cy) (bl Y) Y) => (⟨Y, j, h, by omega, hj, by omega, hn'⟩ : UpA w' (.slice py (bl Y) cy) (ey - lo) n))
  obtain ⟨s, hsd⟩ : ∃ s, s = docN sx m sy n := ⟨_, rfl⟩
  obtain ⟨sg, hsg⟩ : ∃ sg, sg = docS sx m sy n := ⟨_, rfl⟩
  have hsgs : Sgn sg := by rw [hsg]; unfold docS; repeat' split
                           all_goals assumption
  have hsb : bl s ≤ 4001 := bl_add m n s 4000 hmb hnb (by rw [hsd]; unfold docN; repeat' split
                                                          all_goals omega)
  have Hlo := Lib.hid hlo; clear hlo
  have Hi := Lib.hid hi; clear hi
  have Hj := Lib.hid hj; clear hj
  have Hm' := Lib.hid hm'; clear hm'
  have Hn' := Lib.hid hn'; clear hn'
  have Hres := Lib.hid hres; clear hres
  have Hsd := Lib.hid hsd; clear hsd
  have Hsg := Lib.hid hsg; clear hsg
  have Hsgs := Lib.hid hsgs; clear hsgs
  have Hsx := Lib.hid hsx; clear hsx
  have Hsy := Lib.hid hsy; clear hsy
  have Hm := Lib.hid hmode; clear hmode
  have hss : (sx != sy) = false := by simp [hs]
  have Hs := Lib.hid hs; clear hs
  go_enter Tryd.func16, Tryd.ntmps16
  go_wp2_with fail
  refine (Hq.out _).mono ?_
  rintro e w0 ⟨rfl, rfl⟩
  go_wp2_with fail
  refine (Hx.out _).mono ?_
  rintro e w1 ⟨px, cx, rfl, rx, hB⟩
  go_wp2_with fail
  refine (Hy.out _).mono ?_
  rintro e w2 ⟨py, cy, rfl, ry, hb⟩
  have rx := rx.keep hb
  have hB := bt hB hb
  have hbb : Below w2.heap.size w2 ((w2.alloc (.cells (List.toArray [.string ⟨#[102, 105, 110, 105, 116, 101]⟩, .int .i64 sx, .slice px (bl X) cx, .int .i64 ex]) 53)).alloc (.cells (List.toArray [.string ⟨#[102, 105, 110, 105, 116, 101]⟩, .int .i64 sy, .slice py (bl Y) cy, .int .i64 ey]) 53)) := by go_grown
  have rx := rx.keep hbb
  have ry := ry.keep hbb
  have hB := bt hB hbb
  have hX := (Has.new w2 [.string ⟨#[102, 105, 110, 105, 116, 101]⟩, .int .i64 sx, .slice px (bl X) cx, .int .i64 ex] 53).alloc (.cells (List.toArray [.string ⟨#[102, 105, 110, 105, 116, 101]⟩, .int .i64 sy, .slice py (bl Y) cy, .int .i64 ey]) 53)
  have hY := Has.new1 w2 (.cells (List.toArray [.string ⟨#[102, 105, 110, 105, 116, 101]⟩, .int .i64 sx, .slice px (bl X) cx, .int .i64 ex]) 53) [.string ⟨#[102, 105, 110, 105, 116, 101]⟩, .int .i64 sy, .slice py (bl Y) cy, .int .i64 ey] 53
  obtain ⟨x0, x1, x2, x3⟩ := hX.c4
  obtain ⟨y0, y1, y2, y3⟩ := hY.c4
  clear hb hbb
  go_wp2_with fail
  have hs0 : S6 w _ (.slice px (bl X) cx) (.slice py (bl Y) cy) (bl X) X (bl Y) Y := ⟨hB, rx, ry⟩
  clear hX hY hB rx ry x0 y0
  rw [← Hlo.out]
  go_cut [14, 15] (fun u v wr => ∃ (pm pn : Option Addr) (cm cn : Nat), u = .slice pm (bl m) cm ∧ v = .slice pn (bl n) cn ∧ S6 w wr (.slice pm (bl m) cm) (.slice pn (bl n) cn) (bl m) m (bl n) n ∧ wr.cell? ⟨w2.heap.size, 1, none⟩ = some (.int .i64 sx) ∧ wr.cell? ⟨w2.heap.size, 2, none⟩ = some (.slice px (bl X) cx) ∧ wr.cell? ⟨w2.heap.size, 3, none⟩ = some (.int .i64 ex) ∧ wr.cell? ⟨w2.heap.size + 1, 1, none⟩ = some (.int .i64 sy) ∧ wr.cell? ⟨w2.heap.size + 1, 2, none⟩ = some (.slice py (bl Y) cy) ∧ wr.cell? ⟨w2.heap.size + 1, 3, none⟩ = some (.int .i64 ey))
  case first =>
    go_region_held3 (fun w' => S6 w w' (.slice px (bl X) cx) (.slice py (bl Y) cy) (bl X) X (bl Y) Y ∧ w'.cell? ⟨w2.heap.size, 1, none⟩ = some (.int .i64 sx) ∧ w'.cell? ⟨w2.heap.size, 2, none⟩ = some (.slice px (bl X) cx) ∧ w'.cell? ⟨w2.heap.size, 3, none⟩ = some (.int .i64 ex) ∧ w'.cell? ⟨w2.heap.size + 1, 1, none⟩ = some (.int .i64 sy) ∧ w'.cell? ⟨w2.heap.size + 1, 2, none⟩ = some (.slice py (bl Y) cy) ∧ w'.cell? ⟨w2.heap.size + 1, 3, none⟩ = some (.int .i64 ey))
      (first | exact ⟨hs0, x1, x2, x3, y1, y2, y3⟩ | exact s6_drew ⟨hs0, x1, x2, x3, y1, y2, y3⟩ | exact s6_keep (by assumption) hb | assumption)
      (first | (go_at_call_of 55 (Value.slice px (bl X) cx); refine (Up_p (Mk1.out _ _ _ (s6_x (by assumption)))).mono ?_; rintro e' w' ⟨pm, cm, rfl, rm, hb⟩; first | have rn := rn.keep hb | have rn := RN.keep (w := World.drew _) rn hb | skip) | (go_at_call_of 55 (Value.slice py (bl Y) cy); refine (Up_p (Mk2.out _ _ _ (s6_y (by assumption)))).mono ?_; rintro e' w' ⟨pn, cn, rfl, rn, hb⟩; first | have rm := rm.keep hb | have rm := RN.keep (w := World.drew _) rm hb | skip))
    all_goals
      rename_i hH
      obtain ⟨⟨hB1, _, _⟩, x1, x2, x3, y1, y2, y3⟩ := hH
      go_wp2_with fail
      go_meet
      exact ⟨pm, pn, cm, cn, rfl, rfl, ⟨hB1, rm, rn⟩, x1, x2, x3, y1, y2, y3⟩
  case rest =>
  clear x1 x2 x3 y1 y2 y3 hs0
  obtain ⟨pm, pn, cm, cn, rfl, rfl, hs0, x1, x2, x3, y1, y2, y3⟩ := hcut
  go_wp2_with fail
  go_cut [16, 17] (fun a b wr => a = .int .i64 sx ∧ ∃ (p : Option Addr) (c : Nat), b = .slice p (bl (m + n)) c ∧ RN wr (.slice p (bl (m + n)) c) (bl (m + n)) (m + n) ∧ S6 w wr (.slice pm (bl m) cm) (.slice pn (bl n) cn) (bl m) m (bl n) n ∧ wr.cell? ⟨w2.heap.size, 1, none⟩ = some (.int .i64 sx) ∧ wr.cell? ⟨w2.heap.size, 2, none⟩ = some (.slice px (bl X) cx) ∧ wr.cell? ⟨w2.heap.size, 3, none⟩ = some (.int .i64 ex) ∧ wr.cell? ⟨w2.heap.size + 1, 1, none⟩ = some (.int .i64 sy) ∧ wr.cell? ⟨w2.heap.size + 1, 2, none⟩ = some (.slice py (bl Y) cy) ∧ wr.cell? ⟨w2.heap.size + 1, 3, none⟩ = some (.int .i64 ey))
  case first =>
    go_region_held3 (fun w' => S6 w w' (.slice pm (bl m) cm) (.slice pn (bl n) cn) (bl m) m (bl n) n ∧ w'.cell? ⟨w2.heap.size, 1, none⟩ = some (.int .i64 sx) ∧ w'.cell? ⟨w2.heap.size, 2, none⟩ = some (.slice px (bl X) cx) ∧ w'.cell? ⟨w2.heap.size, 3, none⟩ = some (.int .i64 ex) ∧ w'.cell? ⟨w2.heap.size + 1, 1, none⟩ = some (.int .i64 sy) ∧ w'.cell? ⟨w2.heap.size + 1, 2, none⟩ = some (.slice py (bl Y) cy) ∧ w'.cell? ⟨w2.heap.size + 1, 3, none⟩ = some (.int .i64 ey))
      (first | exact ⟨hs0, x1, x2, x3, y1, y2, y3⟩ | exact s6_drew ⟨hs0, x1, x2, x3, y1, y2, y3⟩ | exact s6_keep (by assumption) hb | assumption)
      ((go_at_call 56; refine (Plus_c _ _ (bl m) (bl n) m n (by omega) (by omega) (bl_lt m) (bl_lt n) _ (s6_x (by assumption)) (s6_y (by assumption))).mono ?_; rintro e' w' ⟨p1, c1, rfl, rs, hb⟩))
    all_goals
      rename_i hH
      obtain ⟨⟨hB1, rm, rn⟩, x1, x2, x3, y1, y2, y3⟩ := hH
      go_wp2_with fail
      go_meet
      exact ⟨rfl, p1, c1, rfl, rs, ⟨hB1, rm, rn⟩, x1, x2, x3, y1, y2, y3⟩
  case rest =>
  clear x1 x2 x3 y1 y2 y3 hs0
  obtain ⟨rfl, p1, c1, rfl, hr, hs0, x1, x2, x3, y1, y2, y3⟩ := hcut
  have hsS : sg = sx := by rw [Hsg.out]; unfold docS; rw [if_pos Hs.out]
  have hsE : m + n = s := by rw [Hsd.out]; unfold docN; rw [if_pos Hs.out]
  rw [hsE] at hr ⊢
  clear hsE
  have hB := hs0.1
  clear hs0
  by_cases c0 : s = 0
  · have hb0 : bl s = 0 := by rw [c0]; rfl
    have Hb0 := Lib.hid hb0; clear hb0
    rw [Hb0.out]
    by_cases hm2 : mode = 2
    · have em : (mode == 2) = true := by simp [hm2]
      have hr12 : (jn W 1 0, (0 : Int)) = (r1, r2) := by rw [← Hres.out]; unfold docF; rw [← Hsd.out, if_pos c0, if_pos hm2]
      obtain ⟨h1, h2⟩ := Prod.mk.inj hr12
      have H1 := Lib.hid h1; clear h1
      have H2 := Lib.hid h2; clear h2
      clear hr12 hm2
      have C0 := Lib.hid c0; clear c0
      go_wp2_with fail
      refine (rZero_c k W D E 1 Hk.out (.inr rfl) _).mono ?_
      rintro e w5 ⟨rfl, hb⟩
      go_wp2_with fail
      go_ret3
      exact ⟨by rw [H1.out, ← H2.out]; rfl, bt hB hb⟩
    · have em : (mode == 2) = false := by simp [hm2]
      have hr12 : (jn W 0 0, (0 : Int)) = (r1, r2) := by rw [← Hres.out]; unfold docF; rw [← Hsd.out, if_pos c0, if_neg hm2]
      obtain ⟨h1, h2⟩ := Prod.mk.inj hr12
      have H1 := Lib.hid h1; clear h1
      have H2 := Lib.hid h2; clear h2
      clear hr12 hm2
      have C0 := Lib.hid c0; clear c0
      go_wp2_with fail
      refine (rZero_c k W D E 0 Hk.out (.inl rfl) _).mono ?_
      rintro e w5 ⟨rfl, hb⟩
      go_wp2_with fail
      go_ret3
      exact ⟨by rw [H1.out, ← H2.out]; rfl, bt hB hb⟩
  · have hz : ((bl s : Int) == 0) = false := by
      have := bl_pos s c0
      simp; omega
    have hr12 : roundF W D mode sx s lo false = (r1, r2) := by rw [← Hres.out]; unfold docF; rw [← Hsd.out, ← Hsg.out, if_neg c0, hsS]
    have Hr12 := Lib.hid hr12; clear hr12
    have C0 := Lib.hid c0; clear c0
    have HS := Lib.hid hsS; clear hsS
    go_wp2_with fail
    refine (Rounded_c k W D E mode sx s lo false _ Hk.out Hm.out (by rw [← HS.out]; exact Hsgs.out) C0.out (by omega) (by omega) (by omega) (fun h => by cases h) _ hr).mono ?_
    rw [Hr12.out]
    rintro e w5 ⟨rfl, hb⟩
    go_wp2_with fail
    go_ret3
    exact ⟨rfl, bt hB hb⟩

set_option maxRecDepth 100000 in
set_option maxHeartbeats 8000000 in
theorem rAdd_ffd (k W D E mode a b : Int)  (sx sy ex ey : Int) (X Y : Nat) (hk : KK k W D E) (hq : ∀ w, Calls Tryd.prog 51 #[.int .i64 k, .int .i64 mode, .int .i64 a, .int .i64 b] w fun e w' => e = .returned (.bool true) ∧ w = w')
    (hx : Tk k a ⟨#[102, 105, 110, 105, 116, 101]⟩ sx X ex) (hy : Tk k b ⟨#[102, 105, 110, 105, 116, 101]⟩ sy Y ey) (hmode : Mode mode) (hsx : Sgn sx) (hsy : Sgn sy) (hX54 : X < 18014398509481984) (hY54 : Y < 18014398509481984) (hex : -1100 ≤ ex ∧ ex ≤ 1000) (hey : -1100 ≤ ey ∧ ey ≤ 1000) (lo : Int) (i j m n : Nat) (r1 r2 : Int) (hlo : lo = min ex ey) (hi : ex - lo = (i : Int)) (hj : ey - lo = (j : Int)) (hm' : m = X * 2 ^ i) (hn' : n = Y * 2 ^ j) (hres : docF W D mode sx m sy n lo = (r1, r2)) (hs : ¬ sx = sy) (w : World) :
    Calls Tryd.prog 16 #[.int .i64 k, .int .i64 mode, .int .i64 a, .int .i64 b] w fun e w' => e = .returned (.tuple #[.int .i64 r1, .int .i64 r2, .int .i64 0]) ∧ Below w.heap.size w w' := by
  have Hk := Lib.hid hk; clear hk
  have Hq := Lib.hid hq; clear hq
  have Hx := Lib.hid hx; clear hx
  have Hy := Lib.hid hy; clear hy
  have hbX : bl X ≤ 60 := bl_mono_le X 60 (by omega)
  have hbY : bl Y ≤ 60 := bl_mono_le Y 60 (by omega)
  have hij : i ≤ 3000 ∧ j ≤ 3000 ∧ -1100 ≤ lo ∧ lo ≤ 1000 := by omega
  obtain ⟨ib, jb, lo0, lo1⟩ := hij
  have v1 : IntKind.i64.wrap (ex - lo) = ex - lo := IntWalk.i64_in _ (by omega)
  have v2 : IntKind.i64.wrap (ey - lo) = ey - lo := IntWalk.i64_in _ (by omega)
  have hmb : bl m ≤ 4000 := by rw [hm', up_len]; split <;> omega
  have hnb : bl n ≤ 4000 := by rw [hn', up_len]; split <;> omega
  have Mk1 := Lib.hid (fun (w' : World) (px : Option Addr) (cx : Nat) (h : RN w' (.slice px (bl X) cx) (bl X) X) => (⟨X, i, h, by omega, hi, by omega, hm'⟩ : UpA w' (.slice px (bl X) cx) (ex - lo) m))
  have Mk2 := Lib.hid (fun (w' : World) (py : Option Addr) (cy : Nat) (h : RN w' (.slice py (bl Y) cy) (bl Y) Y) => (⟨Y, j, h, by omega, hj, by omega, hn'⟩ : UpA w' (.slice py (bl Y) cy) (ey - lo) n))
  obtain ⟨s, hsd⟩ : ∃ s, s = docN sx m sy n := ⟨_, rfl⟩
  obtain ⟨sg, hsg⟩ : ∃ sg, sg = docS sx m sy n := ⟨_, rfl⟩
  have hsgs : Sgn sg := by rw [hsg]; unfold docS; repeat' split
                           all_goals assumption
  have hsb : bl s ≤ 4001 := bl_add m n s 4000 hmb hnb (by rw [hsd]; unfold docN; repeat' split
                                                          all_goals omega)
  have Hlo := Lib.hid hlo; clear hlo
  have Hi := Lib.hid hi; clear hi
  have Hj := Lib.hid hj; clear hj
  have Hm' := Lib.hid hm'; clear hm'
  have Hn' := Lib.hid hn'; clear hn'
  have Hres := Lib.hid hres; clear hres
  have Hsd := Lib.hid hsd; clear hsd
  have Hsg := Lib.hid hsg; clear hsg
  have Hsgs := Lib.hid hsgs; clear hsgs
  have Hsx := Lib.hid hsx; clear hsx
  have Hsy := Lib.hid hsy; clear hsy
  have Hm := Lib.hid hmode; clear hmode
  have hss : (sx != sy) = true := by simp [hs]
  have Hs := Lib.hid hs; clear hs
  go_enter Tryd.func16, Tryd.ntmps16
  go_wp2_with fail
  refine (Hq.out _).mono ?_
  rintro e w0 ⟨rfl, rfl⟩
  go_wp2_with fail
  refine (Hx.out _).mono ?_
  rintro e w1 ⟨px, cx, rfl, rx, hB⟩
  go_wp2_with fail
  refine (Hy.out _).mono ?_
  rintro e w2 ⟨py, cy, rfl, ry, hb⟩
  have rx := rx.keep hb
  have hB := bt hB hb
  have hbb : Below w2.heap.size w2 ((w2.alloc (.cells (List.toArray [.string ⟨#[102, 105, 110, 105, 116, 101]⟩, .int .i64 sx, .slice px (bl X) cx, .int .i64 ex]) 53)).alloc (.cells (List.toArray [.string ⟨#[102, 105, 110, 105, 116, 101]⟩, .int .i64 sy, .slice py (bl Y) cy, .int .i64 ey]) 53)) := by go_grown
  have rx := rx.keep hbb
  have ry := ry.keep hbb
  have hB := bt hB hbb
  have hX := (Has.new w2 [.string ⟨#[102, 105, 110, 105, 116, 101]⟩, .int .i64 sx, .slice px (bl X) cx, .int .i64 ex] 53).alloc (.cells (List.toArray [.string ⟨#[102, 105, 110, 105, 116, 101]⟩, .int .i64 sy, .slice py (bl Y) cy, .int .i64 ey]) 53)
  have hY := Has.new1 w2 (.cells (List.toArray [.string ⟨#[102, 105, 110, 105, 116, 101]⟩, .int .i64 sx, .slice px (bl X) cx, .int .i64 ex]) 53) [.string ⟨#[102, 105, 110, 105, 116, 101]⟩, .int .i64 sy, .slice py (bl Y) cy, .int .i64 ey] 53
  obtain ⟨x0, x1, x2, x3⟩ := hX.c4
  obtain ⟨y0, y1, y2, y3⟩ := hY.c4
  clear hb hbb
  go_wp2_with fail
  have hs0 : S6 w _ (.slice px (bl X) cx) (.slice py (bl Y) cy) (bl X) X (bl Y) Y := ⟨hB, rx, ry⟩
  clear hX hY hB rx ry x0 y0
  rw [← Hlo.out]
  go_cut [14, 15] (fun u v wr => ∃ (pm pn : Option Addr) (cm cn : Nat), u = .slice pm (bl m) cm ∧ v = .slice pn (bl n) cn ∧ S6 w wr (.slice pm (bl m) cm) (.slice pn (bl n) cn) (bl m) m (bl n) n ∧ wr.cell? ⟨w2.heap.size, 1, none⟩ = some (.int .i64 sx) ∧ wr.cell? ⟨w2.heap.size, 2, none⟩ = some (.slice px (bl X) cx) ∧ wr.cell? ⟨w2.heap.size, 3, none⟩ = some (.int .i64 ex) ∧ wr.cell? ⟨w2.heap.size + 1, 1, none⟩ = some (.int .i64 sy) ∧ wr.cell? ⟨w2.heap.size + 1, 2, none⟩ = some (.slice py (bl Y) cy) ∧ wr.cell? ⟨w2.heap.size + 1, 3, none⟩ = some (.int .i64 ey))
  case first =>
    go_region_held3 (fun w' => S6 w w' (.slice px (bl X) cx) (.slice py (bl Y) cy) (bl X) X (bl Y) Y ∧ w'.cell? ⟨w2.heap.size, 1, none⟩ = some (.int .i64 sx) ∧ w'.cell? ⟨w2.heap.size, 2, none⟩ = some (.slice px (bl X) cx) ∧ w'.cell? ⟨w2.heap.size, 3, none⟩ = some (.int .i64 ex) ∧ w'.cell? ⟨w2.heap.size + 1, 1, none⟩ = some (.int .i64 sy) ∧ w'.cell? ⟨w2.heap.size + 1, 2, none⟩ = some (.slice py (bl Y) cy) ∧ w'.cell? ⟨w2.heap.size + 1, 3, none⟩ = some (.int .i64 ey))
      (first | exact ⟨hs0, x1, x2, x3, y1, y2, y3⟩ | exact s6_drew ⟨hs0, x1, x2, x3, y1, y2, y3⟩ | exact s6_keep (by assumption) hb | assumption)
      (first | (go_at_call_of 55 (Value.slice px (bl X) cx); refine (Up_p (Mk1.out _ _ _ (s6_x (by assumption)))).mono ?_; rintro e' w' ⟨pm, cm, rfl, rm, hb⟩; first | have rn := rn.keep hb | have rn := RN.keep (w := World.drew _) rn hb | skip) | (go_at_call_of 55 (Value.slice py (bl Y) cy); refine (Up_p (Mk2.out _ _ _ (s6_y (by assumption)))).mono ?_; rintro e' w' ⟨pn, cn, rfl, rn, hb⟩; first | have rm := rm.keep hb | have rm := RN.keep (w := World.drew _) rm hb | skip))
    all_goals
      rename_i hH
      obtain ⟨⟨hB1, _, _⟩, x1, x2, x3, y1, y2, y3⟩ := hH
      go_wp2_with fail
      go_meet
      exact ⟨pm, pn, cm, cn, rfl, rfl, ⟨hB1, rm, rn⟩, x1, x2, x3, y1, y2, y3⟩
  case rest =>
  clear x1 x2 x3 y1 y2 y3 hs0
  obtain ⟨pm, pn, cm, cn, rfl, rfl, hs0, x1, x2, x3, y1, y2, y3⟩ := hcut
  go_wp2_with fail
  go_cut [16, 17] (fun a b wr => a = .int .i64 sx ∧ ∃ (p : Option Addr) (c : Nat), b = .slice p (bl (m + n)) c ∧ RN wr (.slice p (bl (m + n)) c) (bl (m + n)) (m + n) ∧ S6 w wr (.slice pm (bl m) cm) (.slice pn (bl n) cn) (bl m) m (bl n) n ∧ wr.cell? ⟨w2.heap.size, 1, none⟩ = some (.int .i64 sx) ∧ wr.cell? ⟨w2.heap.size, 2, none⟩ = some (.slice px (bl X) cx) ∧ wr.cell? ⟨w2.heap.size, 3, none⟩ = some (.int .i64 ex) ∧ wr.cell? ⟨w2.heap.size + 1, 1, none⟩ = some (.int .i64 sy) ∧ wr.cell? ⟨w2.heap.size + 1, 2, none⟩ = some (.slice py (bl Y) cy) ∧ wr.cell? ⟨w2.heap.size + 1, 3, none⟩ = some (.int .i64 ey))
  case first =>
    go_region_held3 (fun w' => S6 w w' (.slice pm (bl m) cm) (.slice pn (bl n) cn) (bl m) m (bl n) n ∧ w'.cell? ⟨w2.heap.size, 1, none⟩ = some (.int .i64 sx) ∧ w'.cell? ⟨w2.heap.size, 2, none⟩ = some (.slice px (bl X) cx) ∧ w'.cell? ⟨w2.heap.size, 3, none⟩ = some (.int .i64 ex) ∧ w'.cell? ⟨w2.heap.size + 1, 1, none⟩ = some (.int .i64 sy) ∧ w'.cell? ⟨w2.heap.size + 1, 2, none⟩ = some (.slice py (bl Y) cy) ∧ w'.cell? ⟨w2.heap.size + 1, 3, none⟩ = some (.int .i64 ey))
      (first | exact ⟨hs0, x1, x2, x3, y1, y2, y3⟩ | exact s6_drew ⟨hs0, x1, x2, x3, y1, y2, y3⟩ | exact s6_keep (by assumption) hb | assumption)
      ((go_at_call 56; refine (Plus_c _ _ (bl m) (bl n) m n (by omega) (by omega) (bl_lt m) (bl_lt n) _ (s6_x (by assumption)) (s6_y (by assumption))).mono ?_; rintro e' w' ⟨p1, c1, rfl, rs, hb⟩))
    all_goals
      rename_i hH
      obtain ⟨⟨hB1, rm, rn⟩, x1, x2, x3, y1, y2, y3⟩ := hH
      go_wp2_with fail
      go_meet
      exact ⟨rfl, p1, c1, rfl, rs, ⟨hB1, rm, rn⟩, x1, x2, x3, y1, y2, y3⟩
  case rest =>
  clear x1 x2 x3 y1 y2 y3 hs0
  obtain ⟨rfl, p1, c1, rfl, hr, hs0, x1, x2, x3, y1, y2, y3⟩ := hcut
  clear hr
  have hB := hs0.1
  have rm := hs0.2.1
  have rn := hs0.2.2
  clear hs0
  by_cases cmn : m < n
  · have hc : cmpN m n = -1 := by unfold cmpN; rw [if_pos cmn]
    have hsS : sg = sy := by rw [Hsg.out]; unfold docS; rw [if_neg Hs.out, if_pos cmn]
    have hsE : n - m = s := by rw [Hsd.out]; unfold docN; rw [if_neg Hs.out, if_pos cmn]
    have Hc := Lib.hid hc; clear hc
    have HE := Lib.hid hsE; clear hsE
    have HS' := Lib.hid hsS; clear hsS
    have Cmn := Lib.hid cmn; clear cmn
    go_wp2_with fail
    refine (Cmp_c _ _ (bl m) (bl n) m n (by omega) (by omega) (bl_lt m) (bl_lt n) _ rm rn).mono ?_
    rw [Hc.out]
    rintro e w4 ⟨rfl, rfl⟩
    have hs0 : S6 w _ (.slice pm (bl m) cm) (.slice pn (bl n) cn) (bl m) m (bl n) n := ⟨hB, rm, rn⟩
    clear hB rm rn
    go_wp2_with fail
    go_region_held3 (fun w' => S6 w w' (.slice pm (bl m) cm) (.slice pn (bl n) cn) (bl m) m (bl n) n ∧ w'.cell? ⟨w2.heap.size, 1, none⟩ = some (.int .i64 sx) ∧ w'.cell? ⟨w2.heap.size, 2, none⟩ = some (.slice px (bl X) cx) ∧ w'.cell? ⟨w2.heap.size, 3, none⟩ = some (.int .i64 ex) ∧ w'.cell? ⟨w2.heap.size + 1, 1, none⟩ = some (.int .i64 sy) ∧ w'.cell? ⟨w2.heap.size + 1, 2, none⟩ = some (.slice py (bl Y) cy) ∧ w'.cell? ⟨w2.heap.size + 1, 3, none⟩ = some (.int .i64 ey))
      (first | exact ⟨hs0, x1, x2, x3, y1, y2, y3⟩ | exact s6_drew ⟨hs0, x1, x2, x3, y1, y2, y3⟩ | exact s6_keep (by assumption) hb | assumption)
      ((go_at_call 58; refine (Minus_c _ _ (bl n) (bl m) n m (by omega) (by omega) (bl_lt n) (bl_lt m) (Nat.le_of_lt Cmn.out) _ (s6_y (by assumption)) (s6_x (by assumption))).mono ?_; rw [HE.out]; rintro e' w' ⟨p2, c2, rfl, hr, hb⟩))
    all_goals
      rename_i hH
      have hB := hH.1.1
      clear hH hs0 x1 x2 x3 y1 y2 y3
      have hsS := HS'.out
      by_cases c0 : s = 0
      · have hb0 : bl s = 0 := by rw [c0]; rfl
        have Hb0 := Lib.hid hb0; clear hb0
        rw [Hb0.out]
        by_cases hm2 : mode = 2
        · have em : (mode == 2) = true := by simp [hm2]
          have hr12 : (jn W 1 0, (0 : Int)) = (r1, r2) := by rw [← Hres.out]; unfold docF; rw [← Hsd.out, if_pos c0, if_pos hm2]
          obtain ⟨h1, h2⟩ := Prod.mk.inj hr12
          have H1 := Lib.hid h1; clear h1
          have H2 := Lib.hid h2; clear h2
          clear hr12 hm2
          have C0 := Lib.hid c0; clear c0
          go_wp2_with fail
          refine (rZero_c k W D E 1 Hk.out (.inr rfl) _).mono ?_
          rintro e w5 ⟨rfl, hb⟩
          go_wp2_with fail
          go_ret3
          exact ⟨by rw [H1.out, ← H2.out]; rfl, bt hB hb⟩
        · have em : (mode == 2) = false := by simp [hm2]
          have hr12 : (jn W 0 0, (0 : Int)) = (r1, r2) := by rw [← Hres.out]; unfold docF; rw [← Hsd.out, if_pos c0, if_neg hm2]
          obtain ⟨h1, h2⟩ := Prod.mk.inj hr12
          have H1 := Lib.hid h1; clear h1
          have H2 := Lib.hid h2; clear h2
          clear hr12 hm2
          have C0 := Lib.hid c0; clear c0
          go_wp2_with fail
          refine (rZero_c k W D E 0 Hk.out (.inl rfl) _).mono ?_
          rintro e w5 ⟨rfl, hb⟩
          go_wp2_with fail
          go_ret3
          exact ⟨by rw [H1.out, ← H2.out]; rfl, bt hB hb⟩
      · have hz : ((bl s : Int) == 0) = false := by
          have := bl_pos s c0
          simp; omega
        have hr12 : roundF W D mode sy s lo false = (r1, r2) := by rw [← Hres.out]; unfold docF; rw [← Hsd.out, ← Hsg.out, if_neg c0, hsS]
        have Hr12 := Lib.hid hr12; clear hr12
        have C0 := Lib.hid c0; clear c0
        have HS := Lib.hid hsS; clear hsS
        go_wp2_with fail
        refine (Rounded_c k W D E mode sy s lo false _ Hk.out Hm.out (by rw [← HS.out]; exact Hsgs.out) C0.out (by omega) (by omega) (by omega) (fun h => by cases h) _ hr).mono ?_
        rw [Hr12.out]
        rintro e w5 ⟨rfl, hb⟩
        go_wp2_with fail
        go_ret3
        exact ⟨rfl, bt hB hb⟩
  · have hc : cmpN m n = 0 ∨ cmpN m n = 1 := by unfold cmpN; rw [if_neg cmn]; split <;> simp
    have hsS : sg = sx := by rw [Hsg.out]; unfold docS; rw [if_neg Hs.out, if_neg cmn]
    have hsE : m - n = s := by rw [Hsd.out]; unfold docN; rw [if_neg Hs.out, if_neg cmn]
    have HE := Lib.hid hsE; clear hsE
    have HS' := Lib.hid hsS; clear hsS
    have Cmn := Lib.hid cmn; clear cmn
    have HCm := Lib.hid (fun (w' : World) (pm pn : Option Addr) (cm cn : Nat) (h1 : RN w' (.slice pm (bl m) cm) (bl m) m) (h2 : RN w' (.slice pn (bl n) cn) (bl n) n) => Cmp_c _ _ (bl m) (bl n) m n (by omega) (by omega) (bl_lt m) (bl_lt n) w' h1 h2)
    generalize cmpN m n = cv at *
    rcases hc with rfl | rfl
    all_goals
      go_wp2_with fail
      refine (HCm.out _ _ _ _ _ rm rn).mono ?_
      rintro e w4 ⟨rfl, rfl⟩
      go_wp2_with fail
      refine (Minus_c _ _ (bl m) (bl n) m n (by omega) (by omega) (bl_lt m) (bl_lt n) (by have := Cmn.out; omega) _ rm rn).mono ?_
      rw [HE.out]
      rintro e' w' ⟨p2, c2, rfl, hr, hb⟩
      have hB := bt hB hb
      clear hb x1 x2 x3 y1 y2 y3
      have hsS := HS'.out
      by_cases c0 : s = 0
      · have hb0 : bl s = 0 := by rw [c0]; rfl
        have Hb0 := Lib.hid hb0; clear hb0
        rw [Hb0.out]
        by_cases hm2 : mode = 2
        · have em : (mode == 2) = true := by simp [hm2]
          have hr12 : (jn W 1 0, (0 : Int)) = (r1, r2) := by rw [← Hres.out]; unfold docF; rw [← Hsd.out, if_pos c0, if_pos hm2]
          obtain ⟨h1, h2⟩ := Prod.mk.inj hr12
          have H1 := Lib.hid h1; clear h1
          have H2 := Lib.hid h2; clear h2
          clear hr12 hm2
          have C0 := Lib.hid c0; clear c0
          go_wp2_with fail
          refine (rZero_c k W D E 1 Hk.out (.inr rfl) _).mono ?_
          rintro e w5 ⟨rfl, hb⟩
          go_wp2_with fail
          go_ret3
          exact ⟨by rw [H1.out, ← H2.out]; rfl, bt hB hb⟩
        · have em : (mode == 2) = false := by simp [hm2]
          have hr12 : (jn W 0 0, (0 : Int)) = (r1, r2) := by rw [← Hres.out]; unfold docF; rw [← Hsd.out, if_pos c0, if_neg hm2]
          obtain ⟨h1, h2⟩ := Prod.mk.inj hr12
          have H1 := Lib.hid h1; clear h1
          have H2 := Lib.hid h2; clear h2
          clear hr12 hm2
          have C0 := Lib.hid c0; clear c0
          go_wp2_with fail
          refine (rZero_c k W D E 0 Hk.out (.inl rfl) _).mono ?_
          rintro e w5 ⟨rfl, hb⟩
          go_wp2_with fail
          go_ret3
          exact ⟨by rw [H1.out, ← H2.out]; rfl, bt hB hb⟩
      · have hz : ((bl s : Int) == 0) = false := by
          have := bl_pos s c0
          simp; omega
        have hr12 : roundF W D mode sx s lo false = (r1, r2) := by rw [← Hres.out]; unfold docF; rw [← Hsd.out, ← Hsg.out, if_neg c0, hsS]
        have Hr12 := Lib.hid hr12; clear hr12
        have C0 := Lib.hid c0; clear c0
        have HS := Lib.hid hsS; clear hsS
        go_wp2_with fail
        refine (Rounded_c k W D E mode sx s lo false _ Hk.out Hm.out (by rw [← HS.out]; exact Hsgs.out) C0.out (by omega) (by omega) (by omega) (fun h => by cases h) _ hr).mono ?_
        rw [Hr12.out]
        rintro e w5 ⟨rfl, hb⟩
        go_wp2_with fail
        go_ret3
        exact ⟨rfl, bt hB hb⟩

set_option maxRecDepth 100000 in
set_option maxHeartbeats 8000000 in
theorem rAdd_fzs (k W D E mode a b : Int)  (sx sy ex ey : Int) (X Y : Nat) (hk : KK k W D E) (hq : ∀ w, Calls Tryd.prog 51 #[.int .i64 k, .int .i64 mode, .int .i64 a, .int .i64 b] w fun e w' => e = .returned (.bool true) ∧ w = w')
    (hx : Tk k a ⟨#[102, 105, 110, 105, 116, 101]⟩ sx X ex) (hy : Tk k b ⟨#[122, 101, 114, 111]⟩ sy Y ey) (hmode : Mode mode) (hsx : Sgn sx) (hsy : Sgn sy) (hX54 : X < 18014398509481984) (hY54 : Y < 18014398509481984) (hex : -1100 ≤ ex ∧ ex ≤ 1000) (hey : -1100 ≤ ey ∧ ey ≤ 1000) (lo : Int) (i j m n : Nat) (r1 r2 : Int) (hlo : lo = min ex ey) (hi : ex - lo = (i : Int)) (hj : ey - lo = (j : Int)) (hm' : m = X * 2 ^ i) (hn' : n = Y * 2 ^ j) (hres : docF W D mode sx m sy n lo = (r1, r2)) (hs : sx = sy) (w : World) :
    Calls Tryd.prog 16 #[.int .i64 k, .int .i64 mode, .int .i64 a, .int .i64 b] w fun e w' => e = .returned (.tuple #[.int .i64 r1, .int .i64 r2, .int .i64 0]) ∧ Below w.heap.size w w' := by
  have Hk := Lib.hid hk; clear hk
  have Hq := Lib.hid hq; clear hq
  have Hx := Lib.hid hx; clear hx
  have Hy := Lib.hid hy; clear hy
  have hbX : bl X ≤ 60 := bl_mono_le X 60 (by omega)
  have hbY : bl Y ≤ 60 := bl_mono_le Y 60 (by omega)
  have hij : i ≤ 3000 ∧ j ≤ 3000 ∧ -1100 ≤ lo ∧ lo ≤ 1000 := by omega
  obtain ⟨ib, jb, lo0, lo1⟩ := hij
  have v1 : IntKind.i64.wrap (ex - lo) = ex - lo := IntWalk.i64_in _ (by omega)
  have v2 : IntKind.i64.wrap (ey - lo) = ey - lo := IntWalk.i64_in _ (by omega)
  have hmb : bl m ≤ 4000 := by rw [hm', up_len]; split <;> omega
  have hnb : bl n ≤ 4000 := by rw [hn', up_len]; split <;> omega
  have Mk1 := Lib.hid (fun (w' : World) (px : Option Addr) (cx : Nat) (h : RN w' (.slice px (bl X) cx) (bl X) X) => (⟨X, i, h, by omega, hi, by omega, hm'⟩ : UpA w' (.slice px (bl X) cx) (ex - lo) m))
  have Mk2 := Lib.hid (fun (w' : World) (py : Option Addr) (cy : Nat) (h : RN w' (.slice py (bl Y) cy) (bl Y) Y) => (⟨Y, j, h, by omega, hj, by omega, hn'⟩ : UpA w' (.slice py (bl Y) cy) (ey - lo) n))
  obtain ⟨s, hsd⟩ : ∃ s, s = docN sx m sy n := ⟨_, rfl⟩
  obtain ⟨sg, hsg⟩ : ∃ sg, sg = docS sx m sy n := ⟨_, rfl⟩
  have hsgs : Sgn sg := by rw [hsg]; unfold docS; repeat' split
                           all_goals assumption
  have hsb : bl s ≤ 4001 := bl_add m n s 4000 hmb hnb (by rw [hsd]; unfold docN; repeat' split
                                                          all_goals omega)
  have Hlo := Lib.hid hlo; clear hlo
  have Hi := Lib.hid hi; clear hi
  have Hj := Lib.hid hj; clear hj
  have Hm' := Lib.hid hm'; clear hm'
  have Hn' := Lib.hid hn'; clear hn'
  have Hres := Lib.hid hres; clear hres
  have Hsd := Lib.hid hsd; clear hsd
  have Hsg := Lib.hid hsg; clear hsg
  have Hsgs := Lib.hid hsgs; clear hsgs
  have Hsx := Lib.hid hsx; clear hsx
  have Hsy := Lib.hid hsy; clear hsy
  have Hm := Lib.hid hmode; clear hmode
  have hss : (sx != sy) = false := by simp [hs]
  have Hs := Lib.hid hs; clear hs
  go_enter Tryd.func16, Tryd.ntmps16
  go_wp2_with fail
  refine (Hq.out _).mono ?_
  rintro e w0 ⟨rfl, rfl⟩
  go_wp2_with fail
  refine (Hx.out _).mono ?_
  rintro e w1 ⟨px, cx, rfl, rx, hB⟩
  go_wp2_with fail
  refine (Hy.out _).mono ?_
  rintro e w2 ⟨py, cy, rfl, ry, hb⟩
  have rx := rx.keep hb
  have hB := bt hB hb
  have hbb : Below w2.heap.size w2 ((w2.alloc (.cells (List.toArray [.string ⟨#[102, 105, 110, 105, 116, 101]⟩, .int .i64 sx, .slice px (bl X) cx, .int .i64 ex]) 53)).alloc (.cells (List.toArray [.string ⟨#[122, 101, 114, 111]⟩, .int .i64 sy, .slice py (bl Y) cy, .int .i64 ey]) 53)) := by go_grown
  have rx := rx.keep hbb
  have ry := ry.keep hbb
  have hB := bt hB hbb
  have hX := (Has.new w2 [.string ⟨#[102, 105, 110, 105, 116, 101]⟩, .int .i64 sx, .slice px (bl X) cx, .int .i64 ex] 53).alloc (.cells (List.toArray [.string ⟨#[122, 101, 114, 111]⟩, .int .i64 sy, .slice py (bl Y) cy, .int .i64 ey]) 53)
  have hY := Has.new1 w2 (.cells (List.toArray [.string ⟨#[102, 105, 110, 105, 116, 101]⟩, .int .i64 sx, .slice px (bl X) cx, .int .i64 ex]) 53) [.string ⟨#[122, 101, 114, 111]⟩, .int .i64 sy, .slice py (bl Y) cy, .int .i64 ey] 53
  obtain ⟨x0, x1, x2, x3⟩ := hX.c4
  obtain ⟨y0, y1, y2, y3⟩ := hY.c4
  clear hb hbb
  go_wp2_with fail
  have hs0 : S6 w _ (.slice px (bl X) cx) (.slice py (bl Y) cy) (bl X) X (bl Y) Y := ⟨hB, rx, ry⟩
  clear hX hY hB rx ry x0 y0
  rw [← Hlo.out]
  go_cut [14, 15] (fun u v wr => ∃ (pm pn : Option Addr) (cm cn : Nat), u = .slice pm (bl m) cm ∧ v = .slice pn (bl n) cn ∧ S6 w wr (.slice pm (bl m) cm) (.slice pn (bl n) cn) (bl m) m (bl n) n ∧ wr.cell? ⟨w2.heap.size, 1, none⟩ = some (.int .i64 sx) ∧ wr.cell? ⟨w2.heap.size, 2, none⟩ = some (.slice px (bl X) cx) ∧ wr.cell? ⟨w2.heap.size, 3, none⟩ = some (.int .i64 ex) ∧ wr.cell? ⟨w2.heap.size + 1, 1, none⟩ = some (.int .i64 sy) ∧ wr.cell? ⟨w2.heap.size + 1, 2, none⟩ = some (.slice py (bl Y) cy) ∧ wr.cell? ⟨w2.heap.size + 1, 3, none⟩ = some (.int .i64 ey))
  case first =>
    go_region_held3 (fun w' => S6 w w' (.slice px (bl X) cx) (.slice py (bl Y) cy) (bl X) X (bl Y) Y ∧ w'.cell? ⟨w2.heap.size, 1, none⟩ = some (.int .i64 sx) ∧ w'.cell? ⟨w2.heap.size, 2, none⟩ = some (.slice px (bl X) cx) ∧ w'.cell? ⟨w2.heap.size, 3, none⟩ = some (.int .i64 ex) ∧ w'.cell? ⟨w2.heap.size + 1, 1, none⟩ = some (.int .i64 sy) ∧ w'.cell? ⟨w2.heap.size + 1, 2, none⟩ = some (.slice py (bl Y) cy) ∧ w'.cell? ⟨w2.heap.size + 1, 3, none⟩ = some (.int .i64 ey))
      (first | exact ⟨hs0, x1, x2, x3, y1, y2, y3⟩ | exact s6_drew ⟨hs0, x1, x2, x3, y1, y2, y3⟩ | exact s6_keep (by assumption) hb | assumption)
      (first | (go_at_call_of 55 (Value.slice px (bl X) cx); refine (Up_p (Mk1.out _ _ _ (s6_x (by assumption)))).mono ?_; rintro e' w' ⟨pm, cm, rfl, rm, hb⟩; first | have rn := rn.keep hb | have rn := RN.keep (w := World.drew _) rn hb | skip) | (go_at_call_of 55 (Value.slice py (bl Y) cy); refine (Up_p (Mk2.out _ _ _ (s6_y (by assumption)))).mono ?_; rintro e' w' ⟨pn, cn, rfl, rn, hb⟩; first | have rm := rm.keep hb | have rm := RN.keep (w := World.drew _) rm hb | skip))
    all_goals
      rename_i hH
      obtain ⟨⟨hB1, _, _⟩, x1, x2, x3, y1, y2, y3⟩ := hH
      go_wp2_with fail
      go_meet
      exact ⟨pm, pn, cm, cn, rfl, rfl, ⟨hB1, rm, rn⟩, x1, x2, x3, y1, y2, y3⟩
  case rest =>
  clear x1 x2 x3 y1 y2 y3 hs0
  obtain ⟨pm, pn, cm, cn, rfl, rfl, hs0, x1, x2, x3, y1, y2, y3⟩ := hcut
  go_wp2_with fail
  go_cut [16, 17] (fun a b wr => a = .int .i64 sx ∧ ∃ (p : Option Addr) (c : Nat), b = .slice p (bl (m + n)) c ∧ RN wr (.slice p (bl (m + n)) c) (bl (m + n)) (m + n) ∧ S6 w wr (.slice pm (bl m) cm) (.slice pn (bl n) cn) (bl m) m (bl n) n ∧ wr.cell? ⟨w2.heap.size, 1, none⟩ = some (.int .i64 sx) ∧ wr.cell? ⟨w2.heap.size, 2, none⟩ = some (.slice px (bl X) cx) ∧ wr.cell? ⟨w2.heap.size, 3, none⟩ = some (.int .i64 ex) ∧ wr.cell? ⟨w2.heap.size + 1, 1, none⟩ = some (.int .i64 sy) ∧ wr.cell? ⟨w2.heap.size + 1, 2, none⟩ = some (.slice py (bl Y) cy) ∧ wr.cell? ⟨w2.heap.size + 1, 3, none⟩ = some (.int .i64 ey))
  case first =>
    go_region_held3 (fun w' => S6 w w' (.slice pm (bl m) cm) (.slice pn (bl n) cn) (bl m) m (bl n) n ∧ w'.cell? ⟨w2.heap.size, 1, none⟩ = some (.int .i64 sx) ∧ w'.cell? ⟨w2.heap.size, 2, none⟩ = some (.slice px (bl X) cx) ∧ w'.cell? ⟨w2.heap.size, 3, none⟩ = some (.int .i64 ex) ∧ w'.cell? ⟨w2.heap.size + 1, 1, none⟩ = some (.int .i64 sy) ∧ w'.cell? ⟨w2.heap.size + 1, 2, none⟩ = some (.slice py (bl Y) cy) ∧ w'.cell? ⟨w2.heap.size + 1, 3, none⟩ = some (.int .i64 ey))
      (first | exact ⟨hs0, x1, x2, x3, y1, y2, y3⟩ | exact s6_drew ⟨hs0, x1, x2, x3, y1, y2, y3⟩ | exact s6_keep (by assumption) hb | assumption)
      ((go_at_call 56; refine (Plus_c _ _ (bl m) (bl n) m n (by omega) (by omega) (bl_lt m) (bl_lt n) _ (s6_x (by assumption)) (s6_y (by assumption))).mono ?_; rintro e' w' ⟨p1, c1, rfl, rs, hb⟩))
    all_goals
      rename_i hH
      obtain ⟨⟨hB1, rm, rn⟩, x1, x2, x3, y1, y2, y3⟩ := hH
      go_wp2_with fail
      go_meet
      exact ⟨rfl, p1, c1, rfl, rs, ⟨hB1, rm, rn⟩, x1, x2, x3, y1, y2, y3⟩
  case rest =>
  clear x1 x2 x3 y1 y2 y3 hs0
  obtain ⟨rfl, p1, c1, rfl, hr, hs0, x1, x2, x3, y1, y2, y3⟩ := hcut
  have hsS : sg = sx := by rw [Hsg.out]; unfold docS; rw [if_pos Hs.out]
  have hsE : m + n = s := by rw [Hsd.out]; unfold docN; rw [if_pos Hs.out]
  rw [hsE] at hr ⊢
  clear hsE
  have hB := hs0.1
  clear hs0
  by_cases c0 : s = 0
  · have hb0 : bl s = 0 := by rw [c0]; rfl
    have Hb0 := Lib.hid hb0; clear hb0
    rw [Hb0.out]
    by_cases hm2 : mode = 2
    · have em : (mode == 2) = true := by simp [hm2]
      have hr12 : (jn W 1 0, (0 : Int)) = (r1, r2) := by rw [← Hres.out]; unfold docF; rw [← Hsd.out, if_pos c0, if_pos hm2]
      obtain ⟨h1, h2⟩ := Prod.mk.inj hr12
      have H1 := Lib.hid h1; clear h1
      have H2 := Lib.hid h2; clear h2
      clear hr12 hm2
      have C0 := Lib.hid c0; clear c0
      go_wp2_with fail
      refine (rZero_c k W D E 1 Hk.out (.inr rfl) _).mono ?_
      rintro e w5 ⟨rfl, hb⟩
      go_wp2_with fail
      go_ret3
      exact ⟨by rw [H1.out, ← H2.out]; rfl, bt hB hb⟩
    · have em : (mode == 2) = false := by simp [hm2]
      have hr12 : (jn W 0 0, (0 : Int)) = (r1, r2) := by rw [← Hres.out]; unfold docF; rw [← Hsd.out, if_pos c0, if_neg hm2]
      obtain ⟨h1, h2⟩ := Prod.mk.inj hr12
      have H1 := Lib.hid h1; clear h1
      have H2 := Lib.hid h2; clear h2
      clear hr12 hm2
      have C0 := Lib.hid c0; clear c0
      go_wp2_with fail
      refine (rZero_c k W D E 0 Hk.out (.inl rfl) _).mono ?_
      rintro e w5 ⟨rfl, hb⟩
      go_wp2_with fail
      go_ret3
      exact ⟨by rw [H1.out, ← H2.out]; rfl, bt hB hb⟩
  · have hz : ((bl s : Int) == 0) = false := by
      have := bl_pos s c0
      simp; omega
    have hr12 : roundF W D mode sx s lo false = (r1, r2) := by rw [← Hres.out]; unfold docF; rw [← Hsd.out, ← Hsg.out, if_neg c0, hsS]
    have Hr12 := Lib.hid hr12; clear hr12
    have C0 := Lib.hid c0; clear c0
    have HS := Lib.hid hsS; clear hsS
    go_wp2_with fail
    refine (Rounded_c k W D E mode sx s lo false _ Hk.out Hm.out (by rw [← HS.out]; exact Hsgs.out) C0.out (by omega) (by omega) (by omega) (fun h => by cases h) _ hr).mono ?_
    rw [Hr12.out]
    rintro e w5 ⟨rfl, hb⟩
    go_wp2_with fail
    go_ret3
    exact ⟨rfl, bt hB hb⟩

set_option maxRecDepth 100000 in
set_option maxHeartbeats 8000000 in
theorem rAdd_fzd (k W D E mode a b : Int)  (sx sy ex ey : Int) (X Y : Nat) (hk : KK k W D E) (hq : ∀ w, Calls Tryd.prog 51 #[.int .i64 k, .int .i64 mode, .int .i64 a, .int .i64 b] w fun e w' => e = .returned (.bool true) ∧ w = w')
    (hx : Tk k a ⟨#[102, 105, 110, 105, 116, 101]⟩ sx X ex) (hy : Tk k b ⟨#[122, 101, 114, 111]⟩ sy Y ey) (hmode : Mode mode) (hsx : Sgn sx) (hsy : Sgn sy) (hX54 : X < 18014398509481984) (hY54 : Y < 18014398509481984) (hex : -1100 ≤ ex ∧ ex ≤ 1000) (hey : -1100 ≤ ey ∧ ey ≤ 1000) (lo : Int) (i j m n : Nat) (r1 r2 : Int) (hlo : lo = min ex ey) (hi : ex - lo = (i : Int)) (hj : ey - lo = (j : Int)) (hm' : m = X * 2 ^ i) (hn' : n = Y * 2 ^ j) (hres : docF W D mode sx m sy n lo = (r1, r2)) (hs : ¬ sx = sy) (w : World) :
    Calls Tryd.prog 16 #[.int .i64 k, .int .i64 mode, .int .i64 a, .int .i64 b] w fun e w' => e = .returned (.tuple #[.int .i64 r1, .int .i64 r2, .int .i64 0]) ∧ Below w.heap.size w w' := by
  have Hk := Lib.hid hk; clear hk
  have Hq := Lib.hid hq; clear hq
  have Hx := Lib.hid hx; clear hx
  have Hy := Lib.hid hy; clear hy
  have hbX : bl X ≤ 60 := bl_mono_le X 60 (by omega)
  have hbY : bl Y ≤ 60 := bl_mono_le Y 60 (by omega)
  have hij : i ≤ 3000 ∧ j ≤ 3000 ∧ -1100 ≤ lo ∧ lo ≤ 1000 := by omega
  obtain ⟨ib, jb, lo0, lo1⟩ := hij
  have v1 : IntKind.i64.wrap (ex - lo) = ex - lo := IntWalk.i64_in _ (by omega)
  have v2 : IntKind.i64.wrap (ey - lo) = ey - lo := IntWalk.i64_in _ (by omega)
  have hmb : bl m ≤ 4000 := by rw [hm', up_len]; split <;> omega
  have hnb : bl n ≤ 4000 := by rw [hn', up_len]; split <;> omega
  have Mk1 := Lib.hid (fun (w' : World) (px : Option Addr) (cx : Nat) (h : RN w' (.slice px (bl X) cx) (bl X) X) => (⟨X, i, h, by omega, hi, by omega, hm'⟩ : UpA w' (.slice px (bl X) cx) (ex - lo) m))
  have Mk2 := Lib.hid (fun (w' : World) (py : Option Addr) (cy : Nat) (h : RN w' (.slice py (bl Y) cy) (bl Y) Y) => (⟨Y, j, h, by omega, hj, by omega, hn'⟩ : UpA w' (.slice py (bl Y) cy) (ey - lo) n))
  obtain ⟨s, hsd⟩ : ∃ s, s = docN sx m sy n := ⟨_, rfl⟩
  obtain ⟨sg, hsg⟩ : ∃ sg, sg = docS sx m sy n := ⟨_, rfl⟩
  have hsgs : Sgn sg := by rw [hsg]; unfold docS; repeat' split
                           all_goals assumption
  have hsb : bl s ≤ 4001 := bl_add m n s 4000 hmb hnb (by rw [hsd]; unfold docN; repeat' split
                                                          all_goals omega)
  have Hlo := Lib.hid hlo; clear hlo
  have Hi := Lib.hid hi; clear hi
  have Hj := Lib.hid hj; clear hj
  have Hm' := Lib.hid hm'; clear hm'
  have Hn' := Lib.hid hn'; clear hn'
  have Hres := Lib.hid hres; clear hres
  have Hsd := Lib.hid hsd; clear hsd
  have Hsg := Lib.hid hsg; clear hsg
  have Hsgs := Lib.hid hsgs; clear hsgs
  have Hsx := Lib.hid hsx; clear hsx
  have Hsy := Lib.hid hsy; clear hsy
  have Hm := Lib.hid hmode; clear hmode
  have hss : (sx != sy) = true := by simp [hs]
  have Hs := Lib.hid hs; clear hs
  go_enter Tryd.func16, Tryd.ntmps16
  go_wp2_with fail
  refine (Hq.out _).mono ?_
  rintro e w0 ⟨rfl, rfl⟩
  go_wp2_with fail
  refine (Hx.out _).mono ?_
  rintro e w1 ⟨px, cx, rfl, rx, hB⟩
  go_wp2_with fail
  refine (Hy.out _).mono ?_
  rintro e w2 ⟨py, cy, rfl, ry, hb⟩
  have rx := rx.keep hb
  have hB := bt hB hb
  have hbb : Below w2.heap.size w2 ((w2.alloc (.cells (List.toArray [.string ⟨#[102, 105, 110, 105, 116, 101]⟩, .int .i64 sx, .slice px (bl X) cx, .int .i64 ex]) 53)).alloc (.cells (List.toArray [.string ⟨#[122, 101, 114, 111]⟩, .int .i64 sy, .slice py (bl Y) cy, .int .i64 ey]) 53)) := by go_grown
  have rx := rx.keep hbb
  have ry := ry.keep hbb
  have hB := bt hB hbb
  have hX := (Has.new w2 [.string ⟨#[102, 105, 110, 105, 116, 101]⟩, .int .i64 sx, .slice px (bl X) cx, .int .i64 ex] 53).alloc (.cells (List.toArray [.string ⟨#[122, 101, 114, 111]⟩, .int .i64 sy, .slice py (bl Y) cy, .int .i64 ey]) 53)
  have hY := Has.new1 w2 (.cells (List.toArray [.string ⟨#[102, 105, 110, 105, 116, 101]⟩, .int .i64 sx, .slice px (bl X) cx, .int .i64 ex]) 53) [.string ⟨#[122, 101, 114, 111]⟩, .int .i64 sy, .slice py (bl Y) cy, .int .i64 ey] 53
  obtain ⟨x0, x1, x2, x3⟩ := hX.c4
  obtain ⟨y0, y1, y2, y3⟩ := hY.c4
  clear hb hbb
  go_wp2_with fail
  have hs0 : S6 w _ (.slice px (bl X) cx) (.slice py (bl Y) cy) (bl X) X (bl Y) Y := ⟨hB, rx, ry⟩
  clear hX hY hB rx ry x0 y0
  rw [← Hlo.out]
  go_cut [14, 15] (fun u v wr => ∃ (pm pn : Option Addr) (cm cn : Nat), u = .slice pm (bl m) cm ∧ v = .slice pn (bl n) cn ∧ S6 w wr (.slice pm (bl m) cm) (.slice pn (bl n) cn) (bl m) m (bl n) n ∧ wr.cell? ⟨w2.heap.size, 1, none⟩ = some (.int .i64 sx) ∧ wr.cell? ⟨w2.heap.size, 2, none⟩ = some (.slice px (bl X) cx) ∧ wr.cell? ⟨w2.heap.size, 3, none⟩ = some (.int .i64 ex) ∧ wr.cell? ⟨w2.heap.size + 1, 1, none⟩ = some (.int .i64 sy) ∧ wr.cell? ⟨w2.heap.size + 1, 2, none⟩ = some (.slice py (bl Y) cy) ∧ wr.cell? ⟨w2.heap.size + 1, 3, none⟩ = some (.int .i64 ey))
  case first =>
    go_region_held3 (fun w' => S6 w w' (.slice px (bl X) cx) (.slice py (bl Y) cy) (bl X) X (bl Y) Y ∧ w'.cell? ⟨w2.heap.size, 1, none⟩ = some (.int .i64 sx) ∧ w'.cell? ⟨w2.heap.size, 2, none⟩ = some (.slice px (bl X) cx) ∧ w'.cell? ⟨w2.heap.size, 3, none⟩ = some (.int .i64 ex) ∧ w'.cell? ⟨w2.heap.size + 1, 1, none⟩ = some (.int .i64 sy) ∧ w'.cell? ⟨w2.heap.size + 1, 2, none⟩ = some (.slice py (bl Y) cy) ∧ w'.cell? ⟨w2.heap.size + 1, 3, none⟩ = some (.int .i64 ey))
      (first | exact ⟨hs0, x1, x2, x3, y1, y2, y3⟩ | exact s6_drew ⟨hs0, x1, x2, x3, y1, y2, y3⟩ | exact s6_keep (by assumption) hb | assumption)
      (first | (go_at_call_of 55 (Value.slice px (bl X) cx); refine (Up_p (Mk1.out _ _ _ (s6_x (by assumption)))).mono ?_; rintro e' w' ⟨pm, cm, rfl, rm, hb⟩; first | have rn := rn.keep hb | have rn := RN.keep (w := World.drew _) rn hb | skip) | (go_at_call_of 55 (Value.slice py (bl Y) cy); refine (Up_p (Mk2.out _ _ _ (s6_y (by assumption)))).mono ?_; rintro e' w' ⟨pn, cn, rfl, rn, hb⟩; first | have rm := rm.keep hb | have rm := RN.keep (w := World.drew _) rm hb | skip))
    all_goals
      rename_i hH
      obtain ⟨⟨hB1, _, _⟩, x1, x2, x3, y1, y2, y3⟩ := hH
      go_wp2_with fail
      go_meet
      exact ⟨pm, pn, cm, cn, rfl, rfl, ⟨hB1, rm, rn⟩, x1, x2, x3, y1, y2, y3⟩
  case rest =>
  clear x1 x2 x3 y1 y2 y3 hs0
  obtain ⟨pm, pn, cm, cn, rfl, rfl, hs0, x1, x2, x3, y1, y2, y3⟩ := hcut
  go_wp2_with fail
  go_cut [16, 17] (fun a b wr => a = .int .i64 sx ∧ ∃ (p : Option Addr) (c : Nat), b = .slice p (bl (m + n)) c ∧ RN wr (.slice p (bl (m + n)) c) (bl (m + n)) (m + n) ∧ S6 w wr (.slice pm (bl m) cm) (.slice pn (bl n) cn) (bl m) m (bl n) n ∧ wr.cell? ⟨w2.heap.size, 1, none⟩ = some (.int .i64 sx) ∧ wr.cell? ⟨w2.heap.size, 2, none⟩ = some (.slice px (bl X) cx) ∧ wr.cell? ⟨w2.heap.size, 3, none⟩ = some (.int .i64 ex) ∧ wr.cell? ⟨w2.heap.size + 1, 1, none⟩ = some (.int .i64 sy) ∧ wr.cell? ⟨w2.heap.size + 1, 2, none⟩ = some (.slice py (bl Y) cy) ∧ wr.cell? ⟨w2.heap.size + 1, 3, none⟩ = some (.int .i64 ey))
  case first =>
    go_region_held3 (fun w' => S6 w w' (.slice pm (bl m) cm) (.slice pn (bl n) cn) (bl m) m (bl n) n ∧ w'.cell? ⟨w2.heap.size, 1, none⟩ = some (.int .i64 sx) ∧ w'.cell? ⟨w2.heap.size, 2, none⟩ = some (.slice px (bl X) cx) ∧ w'.cell? ⟨w2.heap.size, 3, none⟩ = some (.int .i64 ex) ∧ w'.cell? ⟨w2.heap.size + 1, 1, none⟩ = some (.int .i64 sy) ∧ w'.cell? ⟨w2.heap.size + 1, 2, none⟩ = some (.slice py (bl Y) cy) ∧ w'.cell? ⟨w2.heap.size + 1, 3, none⟩ = some (.int .i64 ey))
      (first | exact ⟨hs0, x1, x2, x3, y1, y2, y3⟩ | exact s6_drew ⟨hs0, x1, x2, x3, y1, y2, y3⟩ | exact s6_keep (by assumption) hb | assumption)
      ((go_at_call 56; refine (Plus_c _ _ (bl m) (bl n) m n (by omega) (by omega) (bl_lt m) (bl_lt n) _ (s6_x (by assumption)) (s6_y (by assumption))).mono ?_; rintro e' w' ⟨p1, c1, rfl, rs, hb⟩))
    all_goals
      rename_i hH
      obtain ⟨⟨hB1, rm, rn⟩, x1, x2, x3, y1, y2, y3⟩ := hH
      go_wp2_with fail
      go_meet
      exact ⟨rfl, p1, c1, rfl, rs, ⟨hB1, rm, rn⟩, x1, x2, x3, y1, y2, y3⟩
  case rest =>
  clear x1 x2 x3 y1 y2 y3 hs0
  obtain ⟨rfl, p1, c1, rfl, hr, hs0, x1, x2, x3, y1, y2, y3⟩ := hcut
  clear hr
  have hB := hs0.1
  have rm := hs0.2.1
  have rn := hs0.2.2
  clear hs0
  by_cases cmn : m < n
  · have hc : cmpN m n = -1 := by unfold cmpN; rw [if_pos cmn]
    have hsS : sg = sy := by rw [Hsg.out]; unfold docS; rw [if_neg Hs.out, if_pos cmn]
    have hsE : n - m = s := by rw [Hsd.out]; unfold docN; rw [if_neg Hs.out, if_pos cmn]
    have Hc := Lib.hid hc; clear hc
    have HE := Lib.hid hsE; clear hsE
    have HS' := Lib.hid hsS; clear hsS
    have Cmn := Lib.hid cmn; clear cmn
    go_wp2_with fail
    refine (Cmp_c _ _ (bl m) (bl n) m n (by omega) (by omega) (bl_lt m) (bl_lt n) _ rm rn).mono ?_
    rw [Hc.out]
    rintro e w4 ⟨rfl, rfl⟩
    have hs0 : S6 w _ (.slice pm (bl m) cm) (.slice pn (bl n) cn) (bl m) m (bl n) n := ⟨hB, rm, rn⟩
    clear hB rm rn
    go_wp2_with fail
    go_region_held3 (fun w' => S6 w w' (.slice pm (bl m) cm) (.slice pn (bl n) cn) (bl m) m (bl n) n ∧ w'.cell? ⟨w2.heap.size, 1, none⟩ = some (.int .i64 sx) ∧ w'.cell? ⟨w2.heap.size, 2, none⟩ = some (.slice px (bl X) cx) ∧ w'.cell? ⟨w2.heap.size, 3, none⟩ = some (.int .i64 ex) ∧ w'.cell? ⟨w2.heap.size + 1, 1, none⟩ = some (.int .i64 sy) ∧ w'.cell? ⟨w2.heap.size + 1, 2, none⟩ = some (.slice py (bl Y) cy) ∧ w'.cell? ⟨w2.heap.size + 1, 3, none⟩ = some (.int .i64 ey))
      (first | exact ⟨hs0, x1, x2, x3, y1, y2, y3⟩ | exact s6_drew ⟨hs0, x1, x2, x3, y1, y2, y3⟩ | exact s6_keep (by assumption) hb | assumption)
      ((go_at_call 58; refine (Minus_c _ _ (bl n) (bl m) n m (by omega) (by omega) (bl_lt n) (bl_lt m) (Nat.le_of_lt Cmn.out) _ (s6_y (by assumption)) (s6_x (by assumption))).mono ?_; rw [HE.out]; rintro e' w' ⟨p2, c2, rfl, hr, hb⟩))
    all_goals
      rename_i hH
      have hB := hH.1.1
      clear hH hs0 x1 x2 x3 y1 y2 y3
      have hsS := HS'.out
      by_cases c0 : s = 0
      · have hb0 : bl s = 0 := by rw [c0]; rfl
        have Hb0 := Lib.hid hb0; clear hb0
        rw [Hb0.out]
        by_cases hm2 : mode = 2
        · have em : (mode == 2) = true := by simp [hm2]
          have hr12 : (jn W 1 0, (0 : Int)) = (r1, r2) := by rw [← Hres.out]; unfold docF; rw [← Hsd.out, if_pos c0, if_pos hm2]
          obtain ⟨h1, h2⟩ := Prod.mk.inj hr12
          have H1 := Lib.hid h1; clear h1
          have H2 := Lib.hid h2; clear h2
          clear hr12 hm2
          have C0 := Lib.hid c0; clear c0
          go_wp2_with fail
          refine (rZero_c k W D E 1 Hk.out (.inr rfl) _).mono ?_
          rintro e w5 ⟨rfl, hb⟩
          go_wp2_with fail
          go_ret3
          exact ⟨by rw [H1.out, ← H2.out]; rfl, bt hB hb⟩
        · have em : (mode == 2) = false := by simp [hm2]
          have hr12 : (jn W 0 0, (0 : Int)) = (r1, r2) := by rw [← Hres.out]; unfold docF; rw [← Hsd.out, if_pos c0, if_neg hm2]
          obtain ⟨h1, h2⟩ := Prod.mk.inj hr12
          have H1 := Lib.hid h1; clear h1
          have H2 := Lib.hid h2; clear h2
          clear hr12 hm2
          have C0 := Lib.hid c0; clear c0
          go_wp2_with fail
          refine (rZero_c k W D E 0 Hk.out (.inl rfl) _).mono ?_
          rintro e w5 ⟨rfl, hb⟩
          go_wp2_with fail
          go_ret3
          exact ⟨by rw [H1.out, ← H2.out]; rfl, bt hB hb⟩
      · have hz : ((bl s : Int) == 0) = false := by
          have := bl_pos s c0
          simp; omega
        have hr12 : roundF W D mode sy s lo false = (r1, r2) := by rw [← Hres.out]; unfold docF; rw [← Hsd.out, ← Hsg.out, if_neg c0, hsS]
        have Hr12 := Lib.hid hr12; clear hr12
        have C0 := Lib.hid c0; clear c0
        have HS := Lib.hid hsS; clear hsS
        go_wp2_with fail
        refine (Rounded_c k W D E mode sy s lo false _ Hk.out Hm.out (by rw [← HS.out]; exact Hsgs.out) C0.out (by omega) (by omega) (by omega) (fun h => by cases h) _ hr).mono ?_
        rw [Hr12.out]
        rintro e w5 ⟨rfl, hb⟩
        go_wp2_with fail
        go_ret3
        exact ⟨rfl, bt hB hb⟩
  · have hc : cmpN m n = 0 ∨ cmpN m n = 1 := by unfold cmpN; rw [if_neg cmn]; split <;> simp
    have hsS : sg = sx := by rw [Hsg.out]; unfold docS; rw [if_neg Hs.out, if_neg cmn]
    have hsE : m - n = s := by rw [Hsd.out]; unfold docN; rw [if_neg Hs.out, if_neg cmn]
    have HE := Lib.hid hsE; clear hsE
    have HS' := Lib.hid hsS; clear hsS
    have Cmn := Lib.hid cmn; clear cmn
    have HCm := Lib.hid (fun (w' : World) (pm pn : Option Addr) (cm cn : Nat) (h1 : RN w' (.slice pm (bl m) cm) (bl m) m) (h2 : RN w' (.slice pn (bl n) cn) (bl n) n) => Cmp_c _ _ (bl m) (bl n) m n (by omega) (by omega) (bl_lt m) (bl_lt n) w' h1 h2)
    generalize cmpN m n = cv at *
    rcases hc with rfl | rfl
    all_goals
      go_wp2_with fail
      refine (HCm.out _ _ _ _ _ rm rn).mono ?_
      rintro e w4 ⟨rfl, rfl⟩
      go_wp2_with fail
      refine (Minus_c _ _ (bl m) (bl n) m n (by omega) (by omega) (bl_lt m) (bl_lt n) (by have := Cmn.out; omega) _ rm rn).mono ?_
      rw [HE.out]
      rintro e' w' ⟨p2, c2, rfl, hr, hb⟩
      have hB := bt hB hb
      clear hb x1 x2 x3 y1 y2 y3
      have hsS := HS'.out
      by_cases c0 : s = 0
      · have hb0 : bl s = 0 := by rw [c0]; rfl
        have Hb0 := Lib.hid hb0; clear hb0
        rw [Hb0.out]
        by_cases hm2 : mode = 2
        · have em : (mode == 2) = true := by simp [hm2]
          have hr12 : (jn W 1 0, (0 : Int)) = (r1, r2) := by rw [← Hres.out]; unfold docF; rw [← Hsd.out, if_pos c0, if_pos hm2]
          obtain ⟨h1, h2⟩ := Prod.mk.inj hr12
          have H1 := Lib.hid h1; clear h1
          have H2 := Lib.hid h2; clear h2
          clear hr12 hm2
          have C0 := Lib.hid c0; clear c0
          go_wp2_with fail
          refine (rZero_c k W D E 1 Hk.out (.inr rfl) _).mono ?_
          rintro e w5 ⟨rfl, hb⟩
          go_wp2_with fail
          go_ret3
          exact ⟨by rw [H1.out, ← H2.out]; rfl, bt hB hb⟩
        · have em : (mode == 2) = false := by simp [hm2]
          have hr12 : (jn W 0 0, (0 : Int)) = (r1, r2) := by rw [← Hres.out]; unfold docF; rw [← Hsd.out, if_pos c0, if_neg hm2]
          obtain ⟨h1, h2⟩ := Prod.mk.inj hr12
          have H1 := Lib.hid h1; clear h1
          have H2 := Lib.hid h2; clear h2
          clear hr12 hm2
          have C0 := Lib.hid c0; clear c0
          go_wp2_with fail
          refine (rZero_c k W D E 0 Hk.out (.inl rfl) _).mono ?_
          rintro e w5 ⟨rfl, hb⟩
          go_wp2_with fail
          go_ret3
          exact ⟨by rw [H1.out, ← H2.out]; rfl, bt hB hb⟩
      · have hz : ((bl s : Int) == 0) = false := by
          have := bl_pos s c0
          simp; omega
        have hr12 : roundF W D mode sx s lo false = (r1, r2) := by rw [← Hres.out]; unfold docF; rw [← Hsd.out, ← Hsg.out, if_neg c0, hsS]
        have Hr12 := Lib.hid hr12; clear hr12
        have C0 := Lib.hid c0; clear c0
        have HS := Lib.hid hsS; clear hsS
        go_wp2_with fail
        refine (Rounded_c k W D E mode sx s lo false _ Hk.out Hm.out (by rw [← HS.out]; exact Hsgs.out) C0.out (by omega) (by omega) (by omega) (fun h => by cases h) _ hr).mono ?_
        rw [Hr12.out]
        rintro e w5 ⟨rfl, hb⟩
        go_wp2_with fail
        go_ret3
        exact ⟨rfl, bt hB hb⟩

set_option maxRecDepth 100000 in
set_option maxHeartbeats 8000000 in
theorem rAdd_zfs (k W D E mode a b : Int)  (sx sy ex ey : Int) (X Y : Nat) (hk : KK k W D E) (hq : ∀ w, Calls Tryd.prog 51 #[.int .i64 k, .int .i64 mode, .int .i64 a, .int .i64 b] w fun e w' => e = .returned (.bool true) ∧ w = w')
    (hx : Tk k a ⟨#[122, 101, 114, 111]⟩ sx X ex) (hy : Tk k b ⟨#[102, 105, 110, 105, 116, 101]⟩ sy Y ey) (hmode : Mode mode) (hsx : Sgn sx) (hsy : Sgn sy) (hX54 : X < 18014398509481984) (hY54 : Y < 18014398509481984) (hex : -1100 ≤ ex ∧ ex ≤ 1000) (hey : -1100 ≤ ey ∧ ey ≤ 1000) (lo : Int) (i j m n : Nat) (r1 r2 : Int) (hlo : lo = min ex ey) (hi : ex - lo = (i : Int)) (hj : ey - lo = (j : Int)) (hm' : m = X * 2 ^ i) (hn' : n = Y * 2 ^ j) (hres : docF W D mode sx m sy n lo = (r1, r2)) (hs : sx = sy) (w : World) :
    Calls Tryd.prog 16 #[.int .i64 k, .int .i64 mode, .int .i64 a, .int .i64 b] w fun e w' => e = .returned (.tuple #[.int .i64 r1, .int .i64 r2, .int .i64 0]) ∧ Below w.heap.size w w' := by
  have Hk := Lib.hid hk; clear hk
  have Hq := Lib.hid hq; clear hq
  have Hx := Lib.hid hx; clear hx
  have Hy := Lib.hid hy; clear hy
  have hbX : bl X ≤ 60 := bl_mono_le X 60 (by omega)
  have hbY : bl Y ≤ 60 := bl_mono_le Y 60 (by omega)
  have hij : i ≤ 3000 ∧ j ≤ 3000 ∧ -1100 ≤ lo ∧ lo ≤ 1000 := by omega
  obtain ⟨ib, jb, lo0, lo1⟩ := hij
  have v1 : IntKind.i64.wrap (ex - lo) = ex - lo := IntWalk.i64_in _ (by omega)
  have v2 : IntKind.i64.wrap (ey - lo) = ey - lo := IntWalk.i64_in _ (by omega)
  have hmb : bl m ≤ 4000 := by rw [hm', up_len]; split <;> omega
  have hnb : bl n ≤ 4000 := by rw [hn', up_len]; split <;> omega
  have Mk1 := Lib.hid (fun (w' : World) (px : Option Addr) (cx : Nat) (h : RN w' (.slice px (bl X) cx) (bl X) X) => (⟨X, i, h, by omega, hi, by omega, hm'⟩ : UpA w' (.slice px (bl X) cx) (ex - lo) m))
  have Mk2 := Lib.hid (fun (w' : World) (py : Option Addr) (cy : Nat) (h : RN w' (.slice py (bl Y) cy) (bl Y) Y) => (⟨Y, j, h, by omega, hj, by omega, hn'⟩ : UpA w' (.slice py (bl Y) cy) (ey - lo) n))
  obtain ⟨s, hsd⟩ : ∃ s, s = docN sx m sy n := ⟨_, rfl⟩
  obtain ⟨sg, hsg⟩ : ∃ sg, sg = docS sx m sy n := ⟨_, rfl⟩
  have hsgs : Sgn sg := by rw [hsg]; unfold docS; repeat' split
                           all_goals assumption
  have hsb : bl s ≤ 4001 := bl_add m n s 4000 hmb hnb (by rw [hsd]; unfold docN; repeat' split
                                                          all_goals omega)
  have Hlo := Lib.hid hlo; clear hlo
  have Hi := Lib.hid hi; clear hi
  have Hj := Lib.hid hj; clear hj
  have Hm' := Lib.hid hm'; clear hm'
  have Hn' := Lib.hid hn'; clear hn'
  have Hres := Lib.hid hres; clear hres
  have Hsd := Lib.hid hsd; clear hsd
  have Hsg := Lib.hid hsg; clear hsg
  have Hsgs := Lib.hid hsgs; clear hsgs
  have Hsx := Lib.hid hsx; clear hsx
  have Hsy := Lib.hid hsy; clear hsy
  have Hm := Lib.hid hmode; clear hmode
  have hss : (sx != sy) = false := by simp [hs]
  have Hs := Lib.hid hs; clear hs
  go_enter Tryd.func16, Tryd.ntmps16
  go_wp2_with fail
  refine (Hq.out _).mono ?_
  rintro e w0 ⟨rfl, rfl⟩
  go_wp2_with fail
  refine (Hx.out _).mono ?_
  rintro e w1 ⟨px, cx, rfl, rx, hB⟩
  go_wp2_with fail
  refine (Hy.out _).mono ?_
  rintro e w2 ⟨py, cy, rfl, ry, hb⟩
  have rx := rx.keep hb
  have hB := bt hB hb
  have hbb : Below w2.heap.size w2 ((w2.alloc (.cells (List.toArray [.string ⟨#[122, 101, 114, 111]⟩, .int .i64 sx, .slice px (bl X) cx, .int .i64 ex]) 53)).alloc (.cells (List.toArray [.string ⟨#[102, 105, 110, 105, 116, 101]⟩, .int .i64 sy, .slice py (bl Y) cy, .int .i64 ey]) 53)) := by go_grown
  have rx := rx.keep hbb
  have ry := ry.keep hbb
  have hB := bt hB hbb
  have hX := (Has.new w2 [.string ⟨#[122, 101, 114, 111]⟩, .int .i64 sx, .slice px (bl X) cx, .int .i64 ex] 53).alloc (.cells (List.toArray [.string ⟨#[102, 105, 110, 105, 116, 101]⟩, .int .i64 sy, .slice py (bl Y) cy, .int .i64 ey]) 53)
  have hY := Has.new1 w2 (.cells (List.toArray [.string ⟨#[122, 101, 114, 111]⟩, .int .i64 sx, .slice px (bl X) cx, .int .i64 ex]) 53) [.string ⟨#[102, 105, 110, 105, 116, 101]⟩, .int .i64 sy, .slice py (bl Y) cy, .int .i64 ey] 53
  obtain ⟨x0, x1, x2, x3⟩ := hX.c4
  obtain ⟨y0, y1, y2, y3⟩ := hY.c4
  clear hb hbb
  go_wp2_with fail
  have hs0 : S6 w _ (.slice px (bl X) cx) (.slice py (bl Y) cy) (bl X) X (bl Y) Y := ⟨hB, rx, ry⟩
  clear hX hY hB rx ry x0 y0
  rw [← Hlo.out]
  go_cut [14, 15] (fun u v wr => ∃ (pm pn : Option Addr) (cm cn : Nat), u = .slice pm (bl m) cm ∧ v = .slice pn (bl n) cn ∧ S6 w wr (.slice pm (bl m) cm) (.slice pn (bl n) cn) (bl m) m (bl n) n ∧ wr.cell? ⟨w2.heap.size, 1, none⟩ = some (.int .i64 sx) ∧ wr.cell? ⟨w2.heap.size, 2, none⟩ = some (.slice px (bl X) cx) ∧ wr.cell? ⟨w2.heap.size, 3, none⟩ = some (.int .i64 ex) ∧ wr.cell? ⟨w2.heap.size + 1, 1, none⟩ = some (.int .i64 sy) ∧ wr.cell? ⟨w2.heap.size + 1, 2, none⟩ = some (.slice py (bl Y) cy) ∧ wr.cell? ⟨w2.heap.size + 1, 3, none⟩ = some (.int .i64 ey))
  case first =>
    go_region_held3 (fun w' => S6 w w' (.slice px (bl X) cx) (.slice py (bl Y) cy) (bl X) X (bl Y) Y ∧ w'.cell? ⟨w2.heap.size, 1, none⟩ = some (.int .i64 sx) ∧ w'.cell? ⟨w2.heap.size, 2, none⟩ = some (.slice px (bl X) cx) ∧ w'.cell? ⟨w2.heap.size, 3, none⟩ = some (.int .i64 ex) ∧ w'.cell? ⟨w2.heap.size + 1, 1, none⟩ = some (.int .i64 sy) ∧ w'.cell? ⟨w2.heap.size + 1, 2, none⟩ = some (.slice py (bl Y) cy) ∧ w'.cell? ⟨w2.heap.size + 1, 3, none⟩ = some (.int .i64 ey))
      (first | exact ⟨hs0, x1, x2, x3, y1, y2, y3⟩ | exact s6_drew ⟨hs0, x1, x2, x3, y1, y2, y3⟩ | exact s6_keep (by assumption) hb | assumption)
      (first | (go_at_call_of 55 (Value.slice px (bl X) cx); refine (Up_p (Mk1.out _ _ _ (s6_x (by assumption)))).mono ?_; rintro e' w' ⟨pm, cm, rfl, rm, hb⟩; first | have rn := rn.keep hb | have rn := RN.keep (w := World.drew _) rn hb | skip) | (go_at_call_of 55 (Value.slice py (bl Y) cy); refine (Up_p (Mk2.out _ _ _ (s6_y (by assumption)))).mono ?_; rintro e' w' ⟨pn, cn, rfl, rn, hb⟩; first | have rm := rm.keep hb | have rm := RN.keep (w := World.drew _) rm hb | skip))
    all_goals
      rename_i hH
      obtain ⟨⟨hB1, _, _⟩, x1, x2, x3, y1, y2, y3⟩ := hH
      go_wp2_with fail
      go_meet
      exact ⟨pm, pn, cm, cn, rfl, rfl, ⟨hB1, rm, rn⟩, x1, x2, x3, y1, y2, y3⟩
  case rest =>
  clear x1 x2 x3 y1 y2 y3 hs0
  obtain ⟨pm, pn, cm, cn, rfl, rfl, hs0, x1, x2, x3, y1, y2, y3⟩ := hcut
  go_wp2_with fail
  go_cut [16, 17] (fun a b wr => a = .int .i64 sx ∧ ∃ (p : Option Addr) (c : Nat), b = .slice p (bl (m + n)) c ∧ RN wr (.slice p (bl (m + n)) c) (bl (m + n)) (m + n) ∧ S6 w wr (.slice pm (bl m) cm) (.slice pn (bl n) cn) (bl m) m (bl n) n ∧ wr.cell? ⟨w2.heap.size, 1, none⟩ = some (.int .i64 sx) ∧ wr.cell? ⟨w2.heap.size, 2, none⟩ = some (.slice px (bl X) cx) ∧ wr.cell? ⟨w2.heap.size, 3, none⟩ = some (.int .i64 ex) ∧ wr.cell? ⟨w2.heap.size + 1, 1, none⟩ = some (.int .i64 sy) ∧ wr.cell? ⟨w2.heap.size + 1, 2, none⟩ = some (.slice py (bl Y) cy) ∧ wr.cell? ⟨w2.heap.size + 1, 3, none⟩ = some (.int .i64 ey))
  case first =>
    go_region_held3 (fun w' => S6 w w' (.slice pm (bl m) cm) (.slice pn (bl n) cn) (bl m) m (bl n) n ∧ w'.cell? ⟨w2.heap.size, 1, none⟩ = some (.int .i64 sx) ∧ w'.cell? ⟨w2.heap.size, 2, none⟩ = some (.slice px (bl X) cx) ∧ w'.cell? ⟨w2.heap.size, 3, none⟩ = some (.int .i64 ex) ∧ w'.cell? ⟨w2.heap.size + 1, 1, none⟩ = some (.int .i64 sy) ∧ w'.cell? ⟨w2.heap.size + 1, 2, none⟩ = some (.slice py (bl Y) cy) ∧ w'.cell? ⟨w2.heap.size + 1, 3, none⟩ = some (.int .i64 ey))
      (first | exact ⟨hs0, x1, x2, x3, y1, y2, y3⟩ | exact s6_drew ⟨hs0, x1, x2, x3, y1, y2, y3⟩ | exact s6_keep (by assumption) hb | assumption)
      ((go_at_call 56; refine (Plus_c _ _ (bl m) (bl n) m n (by omega) (by omega) (bl_lt m) (bl_lt n) _ (s6_x (by assumption)) (s6_y (by assumption))).mono ?_; rintro e' w' ⟨p1, c1, rfl, rs, hb⟩))
    all_goals
      rename_i hH
      obtain ⟨⟨hB1, rm, rn⟩, x1, x2, x3, y1, y2, y3⟩ := hH
      go_wp2_with fail
      go_meet
      exact ⟨rfl, p1, c1, rfl, rs, ⟨hB1, rm, rn⟩, x1, x2, x3, y1, y2, y3⟩
  case rest =>
  clear x1 x2 x3 y1 y2 y3 hs0
  obtain ⟨rfl, p1, c1, rfl, hr, hs0, x1, x2, x3, y1, y2, y3⟩ := hcut
  have hsS : sg = sx := by rw [Hsg.out]; unfold docS; rw [if_pos Hs.out]
  have hsE : m + n = s := by rw [Hsd.out]; unfold docN; rw [if_pos Hs.out]
  rw [hsE] at hr ⊢
  clear hsE
  have hB := hs0.1
  clear hs0
  by_cases c0 : s = 0
  · have hb0 : bl s = 0 := by rw [c0]; rfl
    have Hb0 := Lib.hid hb0; clear hb0
    rw [Hb0.out]
    by_cases hm2 : mode = 2
    · have em : (mode == 2) = true := by simp [hm2]
      have hr12 : (jn W 1 0, (0 : Int)) = (r1, r2) := by rw [← Hres.out]; unfold docF; rw [← Hsd.out, if_pos c0, if_pos hm2]
      obtain ⟨h1, h2⟩ := Prod.mk.inj hr12
      have H1 := Lib.hid h1; clear h1
      have H2 := Lib.hid h2; clear h2
      clear hr12 hm2
      have C0 := Lib.hid c0; clear c0
      go_wp2_with fail
      refine (rZero_c k W D E 1 Hk.out (.inr rfl) _).mono ?_
      rintro e w5 ⟨rfl, hb⟩
      go_wp2_with fail
      go_ret3
      exact ⟨by rw [H1.out, ← H2.out]; rfl, bt hB hb⟩
    · have em : (mode == 2) = false := by simp [hm2]
      have hr12 : (jn W 0 0, (0 : Int)) = (r1, r2) := by rw [← Hres.out]; unfold docF; rw [← Hsd.out, if_pos c0, if_neg hm2]
      obtain ⟨h1, h2⟩ := Prod.mk.inj hr12
      have H1 := Lib.hid h1; clear h1
      have H2 := Lib.hid h2; clear h2
      clear hr12 hm2
      have C0 := Lib.hid c0; clear c0
      go_wp2_with fail
      refine (rZero_c k W D E 0 Hk.out (.inl rfl) _).mono ?_
      rintro e w5 ⟨rfl, hb⟩
      go_wp2_with fail
      go_ret3
      exact ⟨by rw [H1.out, ← H2.out]; rfl, bt hB hb⟩
  · have hz : ((bl s : Int) == 0) = false := by
      have := bl_pos s c0
      simp; omega
    have hr12 : roundF W D mode sx s lo false = (r1, r2) := by rw [← Hres.out]; unfold docF; rw [← Hsd.out, ← Hsg.out, if_neg c0, hsS]
    have Hr12 := Lib.hid hr12; clear hr12
    have C0 := Lib.hid c0; clear c0
    have HS := Lib.hid hsS; clear hsS
    go_wp2_with fail
    refine (Rounded_c k W D E mode sx s lo false _ Hk.out Hm.out (by rw [← HS.out]; exact Hsgs.out) C0.out (by omega) (by omega) (by omega) (fun h => by cases h) _ hr).mono ?_
    rw [Hr12.out]
    rintro e w5 ⟨rfl, hb⟩
    go_wp2_with fail
    go_ret3
    exact ⟨rfl, bt hB hb⟩

set_option maxRecDepth 100000 in
set_option maxHeartbeats 8000000 in
theorem rAdd_zfd (k W D E mode a b : Int)  (sx sy ex ey : Int) (X Y : Nat) (hk : KK k W D E) (hq : ∀ w, Calls Tryd.prog 51 #[.int .i64 k, .int .i64 mode, .int .i64 a, .int .i64 b] w fun e w' => e = .returned (.bool true) ∧ w = w')
    (hx : Tk k a ⟨#[122, 101, 114, 111]⟩ sx X ex) (hy : Tk k b ⟨#[102, 105, 110, 105, 116, 101]⟩ sy Y ey) (hmode : Mode mode) (hsx : Sgn sx) (hsy : Sgn sy) (hX54 : X < 18014398509481984) (hY54 : Y < 18014398509481984) (hex : -1100 ≤ ex ∧ ex ≤ 1000) (hey : -1100 ≤ ey ∧ ey ≤ 1000) (lo : Int) (i j m n : Nat) (r1 r2 : Int) (hlo : lo = min ex ey) (hi : ex - lo = (i : Int)) (hj : ey - lo = (j : Int)) (hm' : m = X * 2 ^ i) (hn' : n = Y * 2 ^ j) (hres : docF W D mode sx m sy n lo = (r1, r2)) (hs : ¬ sx = sy) (w : World) :
    Calls Tryd.prog 16 #[.int .i64 k, .int .i64 mode, .int .i64 a, .int .i64 b] w fun e w' => e = .returned (.tuple #[.int .i64 r1, .int .i64 r2, .int .i64 0]) ∧ Below w.heap.size w w' := by
  have Hk := Lib.hid hk; clear hk
  have Hq := Lib.hid hq; clear hq
  have Hx := Lib.hid hx; clear hx
  have Hy := Lib.hid hy; clear hy
  have hbX : bl X ≤ 60 := bl_mono_le X 60 (by omega)
  have hbY : bl Y ≤ 60 := bl_mono_le Y 60 (by omega)
  have hij : i ≤ 3000 ∧ j ≤ 3000 ∧ -1100 ≤ lo ∧ lo ≤ 1000 := by omega
  obtain ⟨ib, jb, lo0, lo1⟩ := hij
  have v1 : IntKind.i64.wrap (ex - lo) = ex - lo := IntWalk.i64_in _ (by omega)
  have v2 : IntKind.i64.wrap (ey - lo) = ey - lo := IntWalk.i64_in _ (by omega)
  have hmb : bl m ≤ 4000 := by rw [hm', up_len]; split <;> omega
  have hnb : bl n ≤ 4000 := by rw [hn', up_len]; split <;> omega
  have Mk1 := Lib.hid (fun (w' : World) (px : Option Addr) (cx : Nat) (h : RN w' (.slice px (bl X) cx) (bl X) X) => (⟨X, i, h, by omega, hi, by omega, hm'⟩ : UpA w' (.slice px (bl X) cx) (ex - lo) m))
  have Mk2 := Lib.hid (fun (w' : World) (py : Option Addr) (cy : Nat) (h : RN w' (.slice py (bl Y) cy) (bl Y) Y) => (⟨Y, j, h, by omega, hj, by omega, hn'⟩ : UpA w' (.slice py (bl Y) cy) (ey - lo) n))
  obtain ⟨s, hsd⟩ : ∃ s, s = docN sx m sy n := ⟨_, rfl⟩
  obtain ⟨sg, hsg⟩ : ∃ sg, sg = docS sx m sy n := ⟨_, rfl⟩
  have hsgs : Sgn sg := by rw [hsg]; unfold docS; repeat' split
                           all_goals assumption
  have hsb : bl s ≤ 4001 := bl_add m n s 4000 hmb hnb (by rw [hsd]; unfold docN; repeat' split
                                                          all_goals omega)
  have Hlo := Lib.hid hlo; clear hlo
  have Hi := Lib.hid hi; clear hi
  have Hj := Lib.hid hj; clear hj
  have Hm' := Lib.hid hm'; clear hm'
  have Hn' := Lib.hid hn'; clear hn'
  have Hres := Lib.hid hres; clear hres
  have Hsd := Lib.hid hsd; clear hsd
  have Hsg := Lib.hid hsg; clear hsg
  have Hsgs := Lib.hid hsgs; clear hsgs
  have Hsx := Lib.hid hsx; clear hsx
  have Hsy := Lib.hid hsy; clear hsy
  have Hm := Lib.hid hmode; clear hmode
  have hss : (sx != sy) = true := by simp [hs]
  have Hs := Lib.hid hs; clear hs
  go_enter Tryd.func16, Tryd.ntmps16
  go_wp2_with fail
  refine (Hq.out _).mono ?_
  rintro e w0 ⟨rfl, rfl⟩
  go_wp2_with fail
  refine (Hx.out _).mono ?_
  rintro e w1 ⟨px, cx, rfl, rx, hB⟩
  go_wp2_with fail
  refine (Hy.out _).mono ?_
  rintro e w2 ⟨py, cy, rfl, ry, hb⟩
  have rx := rx.keep hb
  have hB := bt hB hb
  have hbb : Below w2.heap.size w2 ((w2.alloc (.cells (List.toArray [.string ⟨#[122, 101, 114, 111]⟩, .int .i64 sx, .slice px (bl X) cx, .int .i64 ex]) 53)).alloc (.cells (List.toArray [.string ⟨#[102, 105, 110, 105, 116, 101]⟩, .int .i64 sy, .slice py (bl Y) cy, .int .i64 ey]) 53)) := by go_grown
  have rx := rx.keep hbb
  have ry := ry.keep hbb
  have hB := bt hB hbb
  have hX := (Has.new w2 [.string ⟨#[122, 101, 114, 111]⟩, .int .i64 sx, .slice px (bl X) cx, .int .i64 ex] 53).alloc (.cells (List.toArray [.string ⟨#[102, 105, 110, 105, 116, 101]⟩, .int .i64 sy, .slice py (bl Y) cy, .int .i64 ey]) 53)
  have hY := Has.new1 w2 (.cells (List.toArray [.string ⟨#[122, 101, 114, 111]⟩, .int .i64 sx, .slice px (bl X) cx, .int .i64 ex]) 53) [.string ⟨#[102, 105, 110, 105, 116, 101]⟩, .int .i64 sy, .slice py (bl Y) cy, .int .i64 ey] 53
  obtain ⟨x0, x1, x2, x3⟩ := hX.c4
  obtain ⟨y0, y1, y2, y3⟩ := hY.c4
  clear hb hbb
  go_wp2_with fail
  have hs0 : S6 w _ (.slice px (bl X) cx) (.slice py (bl Y) cy) (bl X) X (bl Y) Y := ⟨hB, rx, ry⟩
  clear hX hY hB rx ry x0 y0
  rw [← Hlo.out]
  go_cut [14, 15] (fun u v wr => ∃ (pm pn : Option Addr) (cm cn : Nat), u = .slice pm (bl m) cm ∧ v = .slice pn (bl n) cn ∧ S6 w wr (.slice pm (bl m) cm) (.slice pn (bl n) cn) (bl m) m (bl n) n ∧ wr.cell? ⟨w2.heap.size, 1, none⟩ = some (.int .i64 sx) ∧ wr.cell? ⟨w2.heap.size, 2, none⟩ = some (.slice px (bl X) cx) ∧ wr.cell? ⟨w2.heap.size, 3, none⟩ = some (.int .i64 ex) ∧ wr.cell? ⟨w2.heap.size + 1, 1, none⟩ = some (.int .i64 sy) ∧ wr.cell? ⟨w2.heap.size + 1, 2, none⟩ = some (.slice py (bl Y) cy) ∧ wr.cell? ⟨w2.heap.size + 1, 3, none⟩ = some (.int .i64 ey))
  case first =>
    go_region_held3 (fun w' => S6 w w' (.slice px (bl X) cx) (.slice py (bl Y) cy) (bl X) X (bl Y) Y ∧ w'.cell? ⟨w2.heap.size, 1, none⟩ = some (.int .i64 sx) ∧ w'.cell? ⟨w2.heap.size, 2, none⟩ = some (.slice px (bl X) cx) ∧ w'.cell? ⟨w2.heap.size, 3, none⟩ = some (.int .i64 ex) ∧ w'.cell? ⟨w2.heap.size + 1, 1, none⟩ = some (.int .i64 sy) ∧ w'.cell? ⟨w2.heap.size + 1, 2, none⟩ = some (.slice py (bl Y) cy) ∧ w'.cell? ⟨w2.heap.size + 1, 3, none⟩ = some (.int .i64 ey))
      (first | exact ⟨hs0, x1, x2, x3, y1, y2, y3⟩ | exact s6_drew ⟨hs0, x1, x2, x3, y1, y2, y3⟩ | exact s6_keep (by assumption) hb | assumption)
      (first | (go_at_call_of 55 (Value.slice px (bl X) cx); refine (Up_p (Mk1.out _ _ _ (s6_x (by assumption)))).mono ?_; rintro e' w' ⟨pm, cm, rfl, rm, hb⟩; first | have rn := rn.keep hb | have rn := RN.keep (w := World.drew _) rn hb | skip) | (go_at_call_of 55 (Value.slice py (bl Y) cy); refine (Up_p (Mk2.out _ _ _ (s6_y (by assumption)))).mono ?_; rintro e' w' ⟨pn, cn, rfl, rn, hb⟩; first | have rm := rm.keep hb | have rm := RN.keep (w := World.drew _) rm hb | skip))
    all_goals
      rename_i hH
      obtain ⟨⟨hB1, _, _⟩, x1, x2, x3, y1, y2, y3⟩ := hH
      go_wp2_with fail
      go_meet
      exact ⟨pm, pn, cm, cn, rfl, rfl, ⟨hB1, rm, rn⟩, x1, x2, x3, y1, y2, y3⟩
  case rest =>
  clear x1 x2 x3 y1 y2 y3 hs0
  obtain ⟨pm, pn, cm, cn, rfl, rfl, hs0, x1, x2, x3, y1, y2, y3⟩ := hcut
  go_wp2_with fail
  go_cut [16, 17] (fun a b wr => a = .int .i64 sx ∧ ∃ (p : Option Addr) (c : Nat), b = .slice p (bl (m + n)) c ∧ RN wr (.slice p (bl (m + n)) c) (bl (m + n)) (m + n) ∧ S6 w wr (.slice pm (bl m) cm) (.slice pn (bl n) cn) (bl m) m (bl n) n ∧ wr.cell? ⟨w2.heap.size, 1, none⟩ = some (.int .i64 sx) ∧ wr.cell? ⟨w2.heap.size, 2, none⟩ = some (.slice px (bl X) cx) ∧ wr.cell? ⟨w2.heap.size, 3, none⟩ = some (.int .i64 ex) ∧ wr.cell? ⟨w2.heap.size + 1, 1, none⟩ = some (.int .i64 sy) ∧ wr.cell? ⟨w2.heap.size + 1, 2, none⟩ = some (.slice py (bl Y) cy) ∧ wr.cell? ⟨w2.heap.size + 1, 3, none⟩ = some (.int .i64 ey))
  case first =>
    go_region_held3 (fun w' => S6 w w' (.slice pm (bl m) cm) (.slice pn (bl n) cn) (bl m) m (bl n) n ∧ w'.cell? ⟨w2.heap.size, 1, none⟩ = some (.int .i64 sx) ∧ w'.cell? ⟨w2.heap.size, 2, none⟩ = some (.slice px (bl X) cx) ∧ w'.cell? ⟨w2.heap.size, 3, none⟩ = some (.int .i64 ex) ∧ w'.cell? ⟨w2.heap.size + 1, 1, none⟩ = some (.int .i64 sy) ∧ w'.cell? ⟨w2.heap.size + 1, 2, none⟩ = some (.slice py (bl Y) cy) ∧ w'.cell? ⟨w2.heap.size + 1, 3, none⟩ = some (.int .i64 ey))
      (first | exact ⟨hs0, x1, x2, x3, y1, y2, y3⟩ | exact s6_drew ⟨hs0, x1, x2, x3, y1, y2, y3⟩ | exact s6_keep (by assumption) hb | assumption)
      ((go_at_call 56; refine (Plus_c _ _ (bl m) (bl n) m n (by omega) (by omega) (bl_lt m) (bl_lt n) _ (s6_x (by assumption)) (s6_y (by assumption))).mono ?_; rintro e' w' ⟨p1, c1, rfl, rs, hb⟩))
    all_goals
      rename_i hH
      obtain ⟨⟨hB1, rm, rn⟩, x1, x2, x3, y1, y2, y3⟩ := hH
      go_wp2_with fail
      go_meet
      exact ⟨rfl, p1, c1, rfl, rs, ⟨hB1, rm, rn⟩, x1, x2, x3, y1, y2, y3⟩
  case rest =>
  clear x1 x2 x3 y1 y2 y3 hs0
  obtain ⟨rfl, p1, c1, rfl, hr, hs0, x1, x2, x3, y1, y2, y3⟩ := hcut
  clear hr
  have hB := hs0.1
  have rm := hs0.2.1
  have rn := hs0.2.2
  clear hs0
  by_cases cmn : m < n
  · have hc : cmpN m n = -1 := by unfold cmpN; rw [if_pos cmn]
    have hsS : sg = sy := by rw [Hsg.out]; unfold docS; rw [if_neg Hs.out, if_pos cmn]
    have hsE : n - m = s := by rw [Hsd.out]; unfold docN; rw [if_neg Hs.out, if_pos cmn]
    have Hc := Lib.hid hc; clear hc
    have HE := Lib.hid hsE; clear hsE
    have HS' := Lib.hid hsS; clear hsS
    have Cmn := Lib.hid cmn; clear cmn
    go_wp2_with fail
    refine (Cmp_c _ _ (bl m) (bl n) m n (by omega) (by omega) (bl_lt m) (bl_lt n) _ rm rn).mono ?_
    rw [Hc.out]
    rintro e w4 ⟨rfl, rfl⟩
    have hs0 : S6 w _ (.slice pm (bl m) cm) (.slice pn (bl n) cn) (bl m) m (bl n) n := ⟨hB, rm, rn⟩
    clear hB rm rn
    go_wp2_with fail
    go_region_held3 (fun w' => S6 w w' (.slice pm (bl m) cm) (.slice pn (bl n) cn) (bl m) m (bl n) n ∧ w'.cell? ⟨w2.heap.size, 1, none⟩ = some (.int .i64 sx) ∧ w'.cell? ⟨w2.heap.size, 2, none⟩ = some (.slice px (bl X) cx) ∧ w'.cell? ⟨w2.heap.size, 3, none⟩ = some (.int .i64 ex) ∧ w'.cell? ⟨w2.heap.size + 1, 1, none⟩ = some (.int .i64 sy) ∧ w'.cell? ⟨w2.heap.size + 1, 2, none⟩ = some (.slice py (bl Y) cy) ∧ w'.cell? ⟨w2.heap.size + 1, 3, none⟩ = some (.int .i64 ey))
      (first | exact ⟨hs0, x1, x2, x3, y1, y2, y3⟩ | exact s6_drew ⟨hs0, x1, x2, x3, y1, y2, y3⟩ | exact s6_keep (by assumption) hb | assumption)
      ((go_at_call 58; refine (Minus_c _ _ (bl n) (bl m) n m (by omega) (by omega) (bl_lt n) (bl_lt m) (Nat.le_of_lt Cmn.out) _ (s6_y (by assumption)) (s6_x (by assumption))).mono ?_; rw [HE.out]; rintro e' w' ⟨p2, c2, rfl, hr, hb⟩))
    all_goals
      rename_i hH
      have hB := hH.1.1
      clear hH hs0 x1 x2 x3 y1 y2 y3
      have hsS := HS'.out
      by_cases c0 : s = 0
      · have hb0 : bl s = 0 := by rw [c0]; rfl
        have Hb0 := Lib.hid hb0; clear hb0
        rw [Hb0.out]
        by_cases hm2 : mode = 2
        · have em : (mode == 2) = true := by simp [hm2]
          have hr12 : (jn W 1 0, (0 : Int)) = (r1, r2) := by rw [← Hres.out]; unfold docF; rw [← Hsd.out, if_pos c0, if_pos hm2]
          obtain ⟨h1, h2⟩ := Prod.mk.inj hr12
          have H1 := Lib.hid h1; clear h1
          have H2 := Lib.hid h2; clear h2
          clear hr12 hm2
          have C0 := Lib.hid c0; clear c0
          go_wp2_with fail
          refine (rZero_c k W D E 1 Hk.out (.inr rfl) _).mono ?_
          rintro e w5 ⟨rfl, hb⟩
          go_wp2_with fail
          go_ret3
          exact ⟨by rw [H1.out, ← H2.out]; rfl, bt hB hb⟩
        · have em : (mode == 2) = false := by simp [hm2]
          have hr12 : (jn W 0 0, (0 : Int)) = (r1, r2) := by rw [← Hres.out]; unfold docF; rw [← Hsd.out, if_pos c0, if_neg hm2]
          obtain ⟨h1, h2⟩ := Prod.mk.inj hr12
          have H1 := Lib.hid h1; clear h1
          have H2 := Lib.hid h2; clear h2
          clear hr12 hm2
          have C0 := Lib.hid c0; clear c0
          go_wp2_with fail
          refine (rZero_c k W D E 0 Hk.out (.inl rfl) _).mono ?_
          rintro e w5 ⟨rfl, hb⟩
          go_wp2_with fail
          go_ret3
          exact ⟨by rw [H1.out, ← H2.out]; rfl, bt hB hb⟩
      · have hz : ((bl s : Int) == 0) = false := by
          have := bl_pos s c0
          simp; omega
        have hr12 : roundF W D mode sy s lo false = (r1, r2) := by rw [← Hres.out]; unfold docF; rw [← Hsd.out, ← Hsg.out, if_neg c0, hsS]
        have Hr12 := Lib.hid hr12; clear hr12
        have C0 := Lib.hid c0; clear c0
        have HS := Lib.hid hsS; clear hsS
        go_wp2_with fail
        refine (Rounded_c k W D E mode sy s lo false _ Hk.out Hm.out (by rw [← HS.out]; exact Hsgs.out) C0.out (by omega) (by omega) (by omega) (fun h => by cases h) _ hr).mono ?_
        rw [Hr12.out]
        rintro e w5 ⟨rfl, hb⟩
        go_wp2_with fail
        go_ret3
        exact ⟨rfl, bt hB hb⟩
  · have hc : cmpN m n = 0 ∨ cmpN m n = 1 := by unfold cmpN; rw [if_neg cmn]; split <;> simp
    have hsS : sg = sx := by rw [Hsg.out]; unfold docS; rw [if_neg Hs.out, if_neg cmn]
    have hsE : m - n = s := by rw [Hsd.out]; unfold docN; rw [if_neg Hs.out, if_neg cmn]
    have HE := Lib.hid hsE; clear hsE
    have HS' := Lib.hid hsS; clear hsS
    have Cmn := Lib.hid cmn; clear cmn
    have HCm := Lib.hid (fun (w' : World) (pm pn : Option Addr) (cm cn : Nat) (h1 : RN w' (.slice pm (bl m) cm) (bl m) m) (h2 : RN w' (.slice pn (bl n) cn) (bl n) n) => Cmp_c _ _ (bl m) (bl n) m n (by omega) (by omega) (bl_lt m) (bl_lt n) w' h1 h2)
    generalize cmpN m n = cv at *
    rcases hc with rfl | rfl
    all_goals
      go_wp2_with fail
      refine (HCm.out _ _ _ _ _ rm rn).mono ?_
      rintro e w4 ⟨rfl, rfl⟩
      go_wp2_with fail
      refine (Minus_c _ _ (bl m) (bl n) m n (by omega) (by omega) (bl_lt m) (bl_lt n) (by have := Cmn.out; omega) _ rm rn).mono ?_
      rw [HE.out]
      rintro e' w' ⟨p2, c2, rfl, hr, hb⟩
      have hB := bt hB hb
      clear hb x1 x2 x3 y1 y2 y3
      have hsS := HS'.out
      by_cases c0 : s = 0
      · have hb0 : bl s = 0 := by rw [c0]; rfl
        have Hb0 := Lib.hid hb0; clear hb0
        rw [Hb0.out]
        by_cases hm2 : mode = 2
        · have em : (mode == 2) = true := by simp [hm2]
          have hr12 : (jn W 1 0, (0 : Int)) = (r1, r2) := by rw [← Hres.out]; unfold docF; rw [← Hsd.out, if_pos c0, if_pos hm2]
          obtain ⟨h1, h2⟩ := Prod.mk.inj hr12
          have H1 := Lib.hid h1; clear h1
          have H2 := Lib.hid h2; clear h2
          clear hr12 hm2
          have C0 := Lib.hid c0; clear c0
          go_wp2_with fail
          refine (rZero_c k W D E 1 Hk.out (.inr rfl) _).mono ?_
          rintro e w5 ⟨rfl, hb⟩
          go_wp2_with fail
          go_ret3
          exact ⟨by rw [H1.out, ← H2.out]; rfl, bt hB hb⟩
        · have em : (mode == 2) = false := by simp [hm2]
          have hr12 : (jn W 0 0, (0 : Int)) = (r1, r2) := by rw [← Hres.out]; unfold docF; rw [← Hsd.out, if_pos c0, if_neg hm2]
          obtain ⟨h1, h2⟩ := Prod.mk.inj hr12
          have H1 := Lib.hid h1; clear h1
          have H2 := Lib.hid h2; clear h2
          clear hr12 hm2
          have C0 := Lib.hid c0; clear c0
          go_wp2_with fail
          refine (rZero_c k W D E 0 Hk.out (.inl rfl) _).mono ?_
          rintro e w5 ⟨rfl, hb⟩
          go_wp2_with fail
          go_ret3
          exact ⟨by rw [H1.out, ← H2.out]; rfl, bt hB hb⟩
      · have hz : ((bl s : Int) == 0) = false := by
          have := bl_pos s c0
          simp; omega
        have hr12 : roundF W D mode sx s lo false = (r1, r2) := by rw [← Hres.out]; unfold docF; rw [← Hsd.out, ← Hsg.out, if_neg c0, hsS]
        have Hr12 := Lib.hid hr12; clear hr12
        have C0 := Lib.hid c0; clear c0
        have HS := Lib.hid hsS; clear hsS
        go_wp2_with fail
        refine (Rounded_c k W D E mode sx s lo false _ Hk.out Hm.out (by rw [← HS.out]; exact Hsgs.out) C0.out (by omega) (by omega) (by omega) (fun h => by cases h) _ hr).mono ?_
        rw [Hr12.out]
        rintro e w5 ⟨rfl, hb⟩
        go_wp2_with fail
        go_ret3
        exact ⟨rfl, bt hB hb⟩

set_option maxRecDepth 100000 in
set_option maxHeartbeats 8000000 in
theorem rAdd_zzd (k W D E mode a b : Int)  (sx sy ex ey : Int) (X Y : Nat) (hk : KK k W D E) (hq : ∀ w, Calls Tryd.prog 51 #[.int .i64 k, .int .i64 mode, .int .i64 a, .int .i64 b] w fun e w' => e = .returned (.bool true) ∧ w = w')
    (hx : Tk k a ⟨#[122, 101, 114, 111]⟩ sx X ex) (hy : Tk k b ⟨#[122, 101, 114, 111]⟩ sy Y ey) (hmode : Mode mode) (hsx : Sgn sx) (hsy : Sgn sy) (hX54 : X < 18014398509481984) (hY54 : Y < 18014398509481984) (hex : -1100 ≤ ex ∧ ex ≤ 1000) (hey : -1100 ≤ ey ∧ ey ≤ 1000) (lo : Int) (i j m n : Nat) (r1 r2 : Int) (hlo : lo = min ex ey) (hi : ex - lo = (i : Int)) (hj : ey - lo = (j : Int)) (hm' : m = X * 2 ^ i) (hn' : n = Y * 2 ^ j) (hres : docF W D mode sx m sy n lo = (r1, r2)) (hs : ¬ sx = sy) (w : World) :
    Calls Tryd.prog 16 #[.int .i64 k, .int .i64 mode, .int .i64 a, .int .i64 b] w fun e w' => e = .returned (.tuple #[.int .i64 r1, .int .i64 r2, .int .i64 0]) ∧ Below w.heap.size w w' := by
  have Hk := Lib.hid hk; clear hk
  have Hq := Lib.hid hq; clear hq
  have Hx := Lib.hid hx; clear hx
  have Hy := Lib.hid hy; clear hy
  have hbX : bl X ≤ 60 := bl_mono_le X 60 (by omega)
  have hbY : bl Y ≤ 60 := bl_mono_le Y 60 (by omega)
  have hij : i ≤ 3000 ∧ j ≤ 3000 ∧ -1100 ≤ lo ∧ lo ≤ 1000 := by omega
  obtain ⟨ib, jb, lo0, lo1⟩ := hij
  have v1 : IntKind.i64.wrap (ex - lo) = ex - lo := IntWalk.i64_in _ (by omega)
  have v2 : IntKind.i64.wrap (ey - lo) = ey - lo := IntWalk.i64_in _ (by omega)
  have hmb : bl m ≤ 4000 := by rw [hm', up_len]; split <;> omega
  have hnb : bl n ≤ 4000 := by rw [hn', up_len]; split <;> omega
  have Mk1 := Lib.hid (fun (w' : World) (px : Option Addr) (cx : Nat) (h : RN w' (.slice px (bl X) cx) (bl X) X) => (⟨X, i, h, by omega, hi, by omega, hm'⟩ : UpA w' (.slice px (bl X) cx) (ex - lo) m))
  have Mk2 := Lib.hid (fun (w' : World) (py : Option Addr) (cy : Nat) (h : RN w' (.slice py (bl Y) cy) (bl Y) Y) => (⟨Y, j, h, by omega, hj, by omega, hn'⟩ : UpA w' (.slice py (bl Y) cy) (ey - lo) n))
  obtain ⟨s, hsd⟩ : ∃ s, s = docN sx m sy n := ⟨_, rfl⟩
  obtain ⟨sg, hsg⟩ : ∃ sg, sg = docS sx m sy n := ⟨_, rfl⟩
  have hsgs : Sgn sg := by rw [hsg]; unfold docS; repeat' split
                           all_goals assumption
  have hsb : bl s ≤ 4001 := bl_add m n s 4000 hmb hnb (by rw [hsd]; unfold docN; repeat' split
                                                          all_goals omega)
  have Hlo := Lib.hid hlo; clear hlo
  have Hi := Lib.hid hi; clear hi
  have Hj := Lib.hid hj; clear hj
  have Hm' := Lib.hid hm'; clear hm'
  have Hn' := Lib.hid hn'; clear hn'
  have Hres := Lib.hid hres; clear hres
  have Hsd := Lib.hid hsd; clear hsd
  have Hsg := Lib.hid hsg; clear hsg
  have Hsgs := Lib.hid hsgs; clear hsgs
  have Hsx := Lib.hid hsx; clear hsx
  have Hsy := Lib.hid hsy; clear hsy
  have Hm := Lib.hid hmode; clear hmode
  have hse : (sx == sy) = false := by simp [hs]
  have hss : (sx != sy) = true := by simp [hs]
  have Hs := Lib.hid hs; clear hs
  go_enter Tryd.func16, Tryd.ntmps16
  go_wp2_with fail
  refine (Hq.out _).mono ?_
  rintro e w0 ⟨rfl, rfl⟩
  go_wp2_with fail
  refine (Hx.out _).mono ?_
  rintro e w1 ⟨px, cx, rfl, rx, hB⟩
  go_wp2_with fail
  refine (Hy.out _).mono ?_
  rintro e w2 ⟨py, cy, rfl, ry, hb⟩
  have rx := rx.keep hb
  have hB := bt hB hb
  have hbb : Below w2.heap.size w2 ((w2.alloc (.cells (List.toArray [.string ⟨#[122, 101, 114, 111]⟩, .int .i64 sx, .slice px (bl X) cx, .int .i64 ex]) 53)).alloc (.cells (List.toArray [.string ⟨#[122, 101, 114, 111]⟩, .int .i64 sy, .slice py (bl Y) cy, .int .i64 ey]) 53)) := by go_grown
  have rx := rx.keep hbb
  have ry := ry.keep hbb
  have hB := bt hB hbb
  have hX := (Has.new w2 [.string ⟨#[122, 101, 114, 111]⟩, .int .i64 sx, .slice px (bl X) cx, .int .i64 ex] 53).alloc (.cells (List.toArray [.string ⟨#[122, 101, 114, 111]⟩, .int .i64 sy, .slice py (bl Y) cy, .int .i64 ey]) 53)
  have hY := Has.new1 w2 (.cells (List.toArray [.string ⟨#[122, 101, 114, 111]⟩, .int .i64 sx, .slice px (bl X) cx, .int .i64 ex]) 53) [.string ⟨#[122, 101, 114, 111]⟩, .int .i64 sy, .slice py (bl Y) cy, .int .i64 ey] 53
  obtain ⟨x0, x1, x2, x3⟩ := hX.c4
  obtain ⟨y0, y1, y2, y3⟩ := hY.c4
  clear hb hbb
  go_wp2_with fail
  have hs0 : S6 w _ (.slice px (bl X) cx) (.slice py (bl Y) cy) (bl X) X (bl Y) Y := ⟨hB, rx, ry⟩
  clear hX hY hB rx ry x0 y0
  rw [← Hlo.out]
  go_cut [14, 15] (fun u v wr => ∃ (pm pn : Option Addr) (cm cn : Nat), u = .slice pm (bl m) cm ∧ v = .slice pn (bl n) cn ∧ S6 w wr (.slice pm (bl m) cm) (.slice pn (bl n) cn) (bl m) m (bl n) n ∧ wr.cell? ⟨w2.heap.size, 1, none⟩ = some (.int .i64 sx) ∧ wr.cell? ⟨w2.heap.size, 2, none⟩ = some (.slice px (bl X) cx) ∧ wr.cell? ⟨w2.heap.size, 3, none⟩ = some (.int .i64 ex) ∧ wr.cell? ⟨w2.heap.size + 1, 1, none⟩ = some (.int .i64 sy) ∧ wr.cell? ⟨w2.heap.size + 1, 2, none⟩ = some (.slice py (bl Y) cy) ∧ wr.cell? ⟨w2.heap.size + 1, 3, none⟩ = some (.int .i64 ey))
  case first =>
    go_region_held3 (fun w' => S6 w w' (.slice px (bl X) cx) (.slice py (bl Y) cy) (bl X) X (bl Y) Y ∧ w'.cell? ⟨w2.heap.size, 1, none⟩ = some (.int .i64 sx) ∧ w'.cell? ⟨w2.heap.size, 2, none⟩ = some (.slice px (bl X) cx) ∧ w'.cell? ⟨w2.heap.size, 3, none⟩ = some (.int .i64 ex) ∧ w'.cell? ⟨w2.heap.size + 1, 1, none⟩ = some (.int .i64 sy) ∧ w'.cell? ⟨w2.heap.size + 1, 2, none⟩ = some (.slice py (bl Y) cy) ∧ w'.cell? ⟨w2.heap.size + 1, 3, none⟩ = some (.int .i64 ey))
      (first | exact ⟨hs0, x1, x2, x3, y1, y2, y3⟩ | exact s6_drew ⟨hs0, x1, x2, x3, y1, y2, y3⟩ | exact s6_keep (by assumption) hb | assumption)
      (first | (go_at_call_of 55 (Value.slice px (bl X) cx); refine (Up_p (Mk1.out _ _ _ (s6_x (by assumption)))).mono ?_; rintro e' w' ⟨pm, cm, rfl, rm, hb⟩; first | have rn := rn.keep hb | have rn := RN.keep (w := World.drew _) rn hb | skip) | (go_at_call_of 55 (Value.slice py (bl Y) cy); refine (Up_p (Mk2.out _ _ _ (s6_y (by assumption)))).mono ?_; rintro e' w' ⟨pn, cn, rfl, rn, hb⟩; first | have rm := rm.keep hb | have rm := RN.keep (w := World.drew _) rm hb | skip))
    all_goals
      rename_i hH
      obtain ⟨⟨hB1, _, _⟩, x1, x2, x3, y1, y2, y3⟩ := hH
      go_wp2_with fail
      go_meet
      exact ⟨pm, pn, cm, cn, rfl, rfl, ⟨hB1, rm, rn⟩, x1, x2, x3, y1, y2, y3⟩
  case rest =>
  clear x1 x2 x3 y1 y2 y3 hs0
  obtain ⟨pm, pn, cm, cn, rfl, rfl, hs0, x1, x2, x3, y1, y2, y3⟩ := hcut
  go_wp2_with fail
  go_cut [16, 17] (fun a b wr => a = .int .i64 sx ∧ ∃ (p : Option Addr) (c : Nat), b = .slice p (bl (m + n)) c ∧ RN wr (.slice p (bl (m + n)) c) (bl (m + n)) (m + n) ∧ S6 w wr (.slice pm (bl m) cm) (.slice pn (bl n) cn) (bl m) m (bl n) n ∧ wr.cell? ⟨w2.heap.size, 1, none⟩ = some (.int .i64 sx) ∧ wr.cell? ⟨w2.heap.size, 2, none⟩ = some (.slice px (bl X) cx) ∧ wr.cell? ⟨w2.heap.size, 3, none⟩ = some (.int .i64 ex) ∧ wr.cell? ⟨w2.heap.size + 1, 1, none⟩ = some (.int .i64 sy) ∧ wr.cell? ⟨w2.heap.size + 1, 2, none⟩ = some (.slice py (bl Y) cy) ∧ wr.cell? ⟨w2.heap.size + 1, 3, none⟩ = some (.int .i64 ey))
  case first =>
    go_region_held3 (fun w' => S6 w w' (.slice pm (bl m) cm) (.slice pn (bl n) cn) (bl m) m (bl n) n ∧ w'.cell? ⟨w2.heap.size, 1, none⟩ = some (.int .i64 sx) ∧ w'.cell? ⟨w2.heap.size, 2, none⟩ = some (.slice px (bl X) cx) ∧ w'.cell? ⟨w2.heap.size, 3, none⟩ = some (.int .i64 ex) ∧ w'.cell? ⟨w2.heap.size + 1, 1, none⟩ = some (.int .i64 sy) ∧ w'.cell? ⟨w2.heap.size + 1, 2, none⟩ = some (.slice py (bl Y) cy) ∧ w'.cell? ⟨w2.heap.size + 1, 3, none⟩ = some (.int .i64 ey))
      (first | exact ⟨hs0, x1, x2, x3, y1, y2, y3⟩ | exact s6_drew ⟨hs0, x1, x2, x3, y1, y2, y3⟩ | exact s6_keep (by assumption) hb | assumption)
      ((go_at_call 56; refine (Plus_c _ _ (bl m) (bl n) m n (by omega) (by omega) (bl_lt m) (bl_lt n) _ (s6_x (by assumption)) (s6_y (by assumption))).mono ?_; rintro e' w' ⟨p1, c1, rfl, rs, hb⟩))
    all_goals
      rename_i hH
      obtain ⟨⟨hB1, rm, rn⟩, x1, x2, x3, y1, y2, y3⟩ := hH
      go_wp2_with fail
      go_meet
      exact ⟨rfl, p1, c1, rfl, rs, ⟨hB1, rm, rn⟩, x1, x2, x3, y1, y2, y3⟩
  case rest =>
  clear x1 x2 x3 y1 y2 y3 hs0
  obtain ⟨rfl, p1, c1, rfl, hr, hs0, x1, x2, x3, y1, y2, y3⟩ := hcut
  clear hr
  have hB := hs0.1
  have rm := hs0.2.1
  have rn := hs0.2.2
  clear hs0
  by_cases cmn : m < n
  · have hc : cmpN m n = -1 := by unfold cmpN; rw [if_pos cmn]
    have hsS : sg = sy := by rw [Hsg.out]; unfold docS; rw [if_neg Hs.out, if_pos cmn]
    have hsE : n - m = s := by rw [Hsd.out]; unfold docN; rw [if_neg Hs.out, if_pos cmn]
    have Hc := Lib.hid hc; clear hc
    have HE := Lib.hid hsE; clear hsE
    have HS' := Lib.hid hsS; clear hsS
    have Cmn := Lib.hid cmn; clear cmn
    go_wp2_with fail
    refine (Cmp_c _ _ (bl m) (bl n) m n (by omega) (by omega) (bl_lt m) (bl_lt n) _ rm rn).mono ?_
    rw [Hc.out]
    rintro e w4 ⟨rfl, rfl⟩
    have hs0 : S6 w _ (.slice pm (bl m) cm) (.slice pn (bl n) cn) (bl m) m (bl n) n := ⟨hB, rm, rn⟩
    clear hB rm rn
    go_wp2_with fail
    go_region_held3 (fun w' => S6 w w' (.slice pm (bl m) cm) (.slice pn (bl n) cn) (bl m) m (bl n) n ∧ w'.cell? ⟨w2.heap.size, 1, none⟩ = some (.int .i64 sx) ∧ w'.cell? ⟨w2.heap.size, 2, none⟩ = some (.slice px (bl X) cx) ∧ w'.cell? ⟨w2.heap.size, 3, none⟩ = some (.int .i64 ex) ∧ w'.cell? ⟨w2.heap.size + 1, 1, none⟩ = some (.int .i64 sy) ∧ w'.cell? ⟨w2.heap.size + 1, 2, none⟩ = some (.slice py (bl Y) cy) ∧ w'.cell? ⟨w2.heap.size + 1, 3, none⟩ = some (.int .i64 ey))
      (first | exact ⟨hs0, x1, x2, x3, y1, y2, y3⟩ | exact s6_drew ⟨hs0, x1, x2, x3, y1, y2, y3⟩ | exact s6_keep (by assumption) hb | assumption)
      ((go_at_call 58; refine (Minus_c _ _ (bl n) (bl m) n m (by omega) (by omega) (bl_lt n) (bl_lt m) (Nat.le_of_lt Cmn.out) _ (s6_y (by assumption)) (s6_x (by assumption))).mono ?_; rw [HE.out]; rintro e' w' ⟨p2, c2, rfl, hr, hb⟩))
    all_goals
      rename_i hH
      have hB := hH.1.1
      clear hH hs0 x1 x2 x3 y1 y2 y3
      have hsS := HS'.out
      by_cases c0 : s = 0
      · have hb0 : bl s = 0 := by rw [c0]; rfl
        have Hb0 := Lib.hid hb0; clear hb0
        rw [Hb0.out]
        by_cases hm2 : mode = 2
        · have em : (mode == 2) = true := by simp [hm2]
          have hr12 : (jn W 1 0, (0 : Int)) = (r1, r2) := by rw [← Hres.out]; unfold docF; rw [← Hsd.out, if_pos c0, if_pos hm2]
          obtain ⟨h1, h2⟩ := Prod.mk.inj hr12
          have H1 := Lib.hid h1; clear h1
          have H2 := Lib.hid h2; clear h2
          clear hr12 hm2
          have C0 := Lib.hid c0; clear c0
          go_wp2_with fail
          refine (rZero_c k W D E 1 Hk.out (.inr rfl) _).mono ?_
          rintro e w5 ⟨rfl, hb⟩
          go_wp2_with fail
          go_ret3
          exact ⟨by rw [H1.out, ← H2.out]; rfl, bt hB hb⟩
        · have em : (mode == 2) = false := by simp [hm2]
          have hr12 : (jn W 0 0, (0 : Int)) = (r1, r2) := by rw [← Hres.out]; unfold docF; rw [← Hsd.out, if_pos c0, if_neg hm2]
          obtain ⟨h1, h2⟩ := Prod.mk.inj hr12
          have H1 := Lib.hid h1; clear h1
          have H2 := Lib.hid h2; clear h2
          clear hr12 hm2
          have C0 := Lib.hid c0; clear c0
          go_wp2_with fail
          refine (rZero_c k W D E 0 Hk.out (.inl rfl) _).mono ?_
          rintro e w5 ⟨rfl, hb⟩
          go_wp2_with fail
          go_ret3
          exact ⟨by rw [H1.out, ← H2.out]; rfl, bt hB hb⟩
      · have hz : ((bl s : Int) == 0) = false := by
          have := bl_pos s c0
          simp; omega
        have hr12 : roundF W D mode sy s lo false = (r1, r2) := by rw [← Hres.out]; unfold docF; rw [← Hsd.out, ← Hsg.out, if_neg c0, hsS]
        have Hr12 := Lib.hid hr12; clear hr12
        have C0 := Lib.hid c0; clear c0
        have HS := Lib.hid hsS; clear hsS
        go_wp2_with fail
        refine (Rounded_c k W D E mode sy s lo false _ Hk.out Hm.out (by rw [← HS.out]; exact Hsgs.out) C0.out (by omega) (by omega) (by omega) (fun h => by cases h) _ hr).mono ?_
        rw [Hr12.out]
        rintro e w5 ⟨rfl, hb⟩
        go_wp2_with fail
        go_ret3
        exact ⟨rfl, bt hB hb⟩
  · have hc : cmpN m n = 0 ∨ cmpN m n = 1 := by unfold cmpN; rw [if_neg cmn]; split <;> simp
    have hsS : sg = sx := by rw [Hsg.out]; unfold docS; rw [if_neg Hs.out, if_neg cmn]
    have hsE : m - n = s := by rw [Hsd.out]; unfold docN; rw [if_neg Hs.out, if_neg cmn]
    have HE := Lib.hid hsE; clear hsE
    have HS' := Lib.hid hsS; clear hsS
    have Cmn := Lib.hid cmn; clear cmn
    have HCm := Lib.hid (fun (w' : World) (pm pn : Option Addr) (cm cn : Nat) (h1 : RN w' (.slice pm (bl m) cm) (bl m) m) (h2 : RN w' (.slice pn (bl n) cn) (bl n) n) => Cmp_c _ _ (bl m) (bl n) m n (by omega) (by omega) (bl_lt m) (bl_lt n) w' h1 h2)
    generalize cmpN m n = cv at *
    rcases hc with rfl | rfl
    all_goals
      go_wp2_with fail
      refine (HCm.out _ _ _ _ _ rm rn).mono ?_
      rintro e w4 ⟨rfl, rfl⟩
      go_wp2_with fail
      refine (Minus_c _ _ (bl m) (bl n) m n (by omega) (by omega) (bl_lt m) (bl_lt n) (by have := Cmn.out; omega) _ rm rn).mono ?_
      rw [HE.out]
      rintro e' w' ⟨p2, c2, rfl, hr, hb⟩
      have hB := bt hB hb
      clear hb x1 x2 x3 y1 y2 y3
      have hsS := HS'.out
      by_cases c0 : s = 0
      · have hb0 : bl s = 0 := by rw [c0]; rfl
        have Hb0 := Lib.hid hb0; clear hb0
        rw [Hb0.out]
        by_cases hm2 : mode = 2
        · have em : (mode == 2) = true := by simp [hm2]
          have hr12 : (jn W 1 0, (0 : Int)) = (r1, r2) := by rw [← Hres.out]; unfold docF; rw [← Hsd.out, if_pos c0, if_pos hm2]
          obtain ⟨h1, h2⟩ := Prod.mk.inj hr12
          have H1 := Lib.hid h1; clear h1
          have H2 := Lib.hid h2; clear h2
          clear hr12 hm2
          have C0 := Lib.hid c0; clear c0
          go_wp2_with fail
          refine (rZero_c k W D E 1 Hk.out (.inr rfl) _).mono ?_
          rintro e w5 ⟨rfl, hb⟩
          go_wp2_with fail
          go_ret3
          exact ⟨by rw [H1.out, ← H2.out]; rfl, bt hB hb⟩
        · have em : (mode == 2) = false := by simp [hm2]
          have hr12 : (jn W 0 0, (0 : Int)) = (r1, r2) := by rw [← Hres.out]; unfold docF; rw [← Hsd.out, if_pos c0, if_neg hm2]
          obtain ⟨h1, h2⟩ := Prod.mk.inj hr12
          have H1 := Lib.hid h1; clear h1
          have H2 := Lib.hid h2; clear h2
          clear hr12 hm2
          have C0 := Lib.hid c0; clear c0
          go_wp2_with fail
          refine (rZero_c k W D E 0 Hk.out (.inl rfl) _).mono ?_
          rintro e w5 ⟨rfl, hb⟩
          go_wp2_with fail
          go_ret3
          exact ⟨by rw [H1.out, ← H2.out]; rfl, bt hB hb⟩
      · have hz : ((bl s : Int) == 0) = false := by
          have := bl_pos s c0
          simp; omega
        have hr12 : roundF W D mode sx s lo false = (r1, r2) := by rw [← Hres.out]; unfold docF; rw [← Hsd.out, ← Hsg.out, if_neg c0, hsS]
        have Hr12 := Lib.hid hr12; clear hr12
        have C0 := Lib.hid c0; clear c0
        have HS := Lib.hid hsS; clear hsS
        go_wp2_with fail
        refine (Rounded_c k W D E mode sx s lo false _ Hk.out Hm.out (by rw [← HS.out]; exact Hsgs.out) C0.out (by omega) (by omega) (by omega) (fun h => by cases h) _ hr).mono ?_
        rw [Hr12.out]
        rintro e w5 ⟨rfl, hb⟩
        go_wp2_with fail
        go_ret3
        exact ⟨rfl, bt hB hb⟩

end Go.Proofs.YtfdenbgmogojeaaDoor

/- Contracts of the small functions of package token: which byte is a letter or a digit, where a run of bytes ends, whether there is such a byte at a place. -/
import Derived.Test.YtcafnpfhjiaolaaDoorRows
import Derived.Test.YtcafnpfhjiaolaaDoorTokH
import Derived.WalkKit
import Derived.WalkSpells
import Derived.WalkLawsBesides
import Derived.Handy
import Derived.Lib.Hide
import Derived.Shelf.Abstract
namespace Go.Proofs.YtcafnpfhjiaolaaDoor
open Go.RowKit

theorem ret_b {a b : Bool} (h : a = b) : Ending.returned (.bool a) = .returned (.bool b) := by rw [h]
theorem ret_i {k : IntKind} {a b : Int} (h : a = b) : Ending.returned (.int k a) = .returned (.int k b) := by rw [h]

theorem dec_t {p : Prop} [Decidable p] (h : p) : true = decide p := by simp [h]
theorem dec_f {p : Prop} [Decidable p] (h : ¬ p) : false = decide p := by simp [h]
theorem dec_c {p q : Prop} [Decidable p] [Decidable q] (h : p ↔ q) : decide p = decide q := by simp [h]

set_option maxHeartbeats 400000 in
theorem isLetter_c (c : Nat) (w : World) : Calls Tryd.prog 26 #[.int .u8 (c : Int)] w fun e w' => e = .returned (.bool (cL c)) ∧ w = w' := by
  go_enter Tryd.func26, Tryd.ntmps26
  go_wp2
  all_goals
    go_ret
    exact ⟨ret_b (by unfold cL; first | exact dec_t (by omega) | exact dec_f (by omega) | exact dec_c (by omega) | (rw [Bool.eq_iff_iff]; simp only [Bool.or_eq_true, decide_eq_true_eq]; omega)), rfl⟩
set_option maxHeartbeats 400000 in
theorem isDigit_c (c : Nat) (w : World) : Calls Tryd.prog 28 #[.int .u8 (c : Int)] w fun e w' => e = .returned (.bool (cD c)) ∧ w = w' := by
  go_enter Tryd.func28, Tryd.ntmps28
  go_wp2
  all_goals
    go_ret
    exact ⟨ret_b (by unfold cD; first | exact dec_t (by omega) | exact dec_f (by omega) | exact dec_c (by omega)), rfl⟩
set_option maxHeartbeats 400000 in
theorem inName_c (c : Nat) (w : World) : Calls Tryd.prog 47 #[.int .u8 (c : Int)] w fun e w' => e = .returned (.bool (cI c)) ∧ w = w' := by
  have h1 : cI c = (cL c || cD c || ((c : Int) == 95)) := by
    unfold cI; congr 1; rw [Bool.eq_iff_iff]; simp; omega
  rw [h1]
  generalize h2 : cL c = bl; generalize h3 : cD c = bd
  have H2 := Lib.hid h2; have H3 := Lib.hid h3; clear h1 h2 h3
  cases bl <;> cases bd
  all_goals
    go_enter Tryd.func47, Tryd.ntmps47
    go_wp2_with (first | (go_at_call 26; refine (isLetter_c _ _).mono ?_; rw [H2.out]; rintro e w' ⟨rfl, rfl⟩) | (go_at_call 28; refine (isDigit_c _ _).mono ?_; rw [H3.out]; rintro e w' ⟨rfl, rfl⟩))
    go_ret
    exact ⟨ret_b (by simp), rfl⟩
theorem exp_in (c : Nat) (hc : c < 256) : decide (0 ≤ Lib.indexByte [101, 69, 100, 68] (UInt8.ofNat c)) = cE c := by
  unfold cE
  rw [Bool.eq_iff_iff, decide_eq_true_eq, decide_eq_true_eq, idx_nn]
  simp only [List.mem_cons, List.not_mem_nil, or_false]
  have e : ∀ k : Nat, k < 256 → (UInt8.ofNat c = UInt8.ofNat k ↔ c = k) := fun k hk => by
    rw [← UInt8.toNat_inj, UInt8.toNat_ofNat', UInt8.toNat_ofNat']; omega
  exact or_congr (e 101 (by omega)) (or_congr (e 69 (by omega)) (or_congr (e 100 (by omega)) (e 68 (by omega))))
set_option maxHeartbeats 400000 in
theorem isExp_c (c : Nat) (hc : c < 256) (w : World) : Calls Tryd.prog 67 #[.int .u8 (c : Int)] w fun e w' => e = .returned (.bool (cE c)) ∧ w = w' := by
  go_enter Tryd.func67, Tryd.ntmps67
  go_wp2_with fail
  refine (Tryd.strings_IndexByte _ _ _).mono ?_
  rintro e w' ⟨rfl, rfl⟩
  go_wp2
  go_ret
  exact ⟨ret_b (exp_in c hc), rfl⟩
set_option maxHeartbeats 400000 in
theorem ok1_c (c : Nat) (w : World) : Calls Tryd.prog 17 #[.int .u8 (c : Int)] w fun e w' => e = .returned (.bool (cOk c)) ∧ w = w' := by
  go_enter Tryd.func17, Tryd.ntmps17
  go_wp2
  all_goals
    go_ret
    exact ⟨ret_b (by unfold cOk; first | exact dec_t (by omega) | exact dec_f (by omega) | exact dec_c (by omega)), rfl⟩
set_option maxHeartbeats 400000 in
theorem blank_c (c : Nat) (w : World) : Calls Tryd.prog 18 #[.int .u8 (c : Int)] w fun e w' => e = .returned (.bool (eqB 32 c)) ∧ w = w' := by
  go_enter Tryd.func18, Tryd.ntmps18
  go_wp2
  go_ret
  exact ⟨ret_b (by unfold eqB; rw [Bool.eq_iff_iff]; simp; omega), rfl⟩

set_option maxRecDepth 100000 in
set_option maxHeartbeats 400000 in
theorem runEnd_c (p : Nat → Bool) (f : FuncId) (caps : Array Value) (s : ByteArray) (i : Nat) (hi : i ≤ s.size) (hs : s.size ≤ 1000000) (w : World)
    (eg : ∀ args w, (callFunc f args).run Tryd.prog w = .ok (.enter f args) w)
    (hF : ∀ c : Nat, c < 256 → Calls Tryd.prog f (#[.int .u8 (c : Int)] ++ caps) w fun e w' => e = .returned (.bool (p c)) ∧ w = w') :
    Calls Tryd.prog 16 #[.string s, .int .i64 (i : Int), .func (.func f) #[] caps] w fun e w' => e = .returned (.int .i64 (rn p s.data.toList i : Int)) ∧ w = w' := by
  have HF := Lib.hid hF; clear hF
  go_enter Tryd.func16, Tryd.ntmps16
  go_wp2
  go_loop [1] (fun t => ∃ k : Nat, i ≤ k ∧ k ≤ s.size ∧ t = .int .i64 (k : Int) ∧ rn p s.data.toList k = rn p s.data.toList i) (fun t => s.size - (intOf t).toNat)
  case atStart => exact ⟨i, Nat.le_refl _, hi, rfl, rfl⟩
  case round =>
    obtain ⟨k, hk1, hk2, rfl, hk⟩ := hrel
    have HK := Lib.hid hk; clear hk
    have hl : s.data.toList.length = s.size := by simp
    by_cases hlt : k < s.size
    · have hb := bt_get s k hlt
      rcases hp : p (bt s.data.toList k) with _ | _
      · have hst := Lib.hid ((rn_stop (p := p) (L := s.data.toList) (i := k) (fun _ => hp)).symm.trans HK.out)
        have Hp := Lib.hid hp; have Hb := Lib.hid hb; clear hp hb hl
        go_wp2_with fail
        refine (HF.out _ (UInt8.toNat_lt _)).mono ?_
        rw [← Hb.out, Hp.out]
        rintro e w' ⟨rfl, rfl⟩
        go_wp2
        go_ret
        exact ⟨ret_i (by rw [← hst.out]), rfl⟩
      · have hst := Lib.hid ((rn_step (p := p) (L := s.data.toList) (i := k) (by omega) hp).symm.trans HK.out)
        have Hp := Lib.hid hp; have Hb := Lib.hid hb; clear hp hb hl
        go_wp2_with fail
        refine (HF.out _ (UInt8.toNat_lt _)).mono ?_
        rw [← Hb.out, Hp.out]
        rintro e w' ⟨rfl, rfl⟩
        go_wp2
        go_round
        case rel => exact ⟨k + 1, by omega, by omega, by go_num, hst.out⟩
        case measure => simp [intOf]; omega
    · have hst := Lib.hid ((rn_stop (p := p) (L := s.data.toList) (i := k) (fun h => absurd h (by omega))).symm.trans HK.out)
      clear hl
      go_wp2
      go_ret
      exact ⟨ret_i (by rw [← hst.out]), rfl⟩

set_option maxRecDepth 100000 in
set_option maxHeartbeats 400000 in
theorem holds_c (p : Nat → Bool) (f : FuncId) (caps : Array Value) (s : ByteArray) (i : Nat) (w : World)
    (eg : ∀ args w, (callFunc f args).run Tryd.prog w = .ok (.enter f args) w) (h0 : p 0 = false)
    (hF : ∀ c : Nat, c < 256 → Calls Tryd.prog f (#[.int .u8 (c : Int)] ++ caps) w fun e w' => e = .returned (.bool (p c)) ∧ w = w') :
    Calls Tryd.prog 29 #[.string s, .int .i64 (i : Int), .func (.func f) #[] caps] w fun e w' => e = .returned (.bool (p (bt s.data.toList i))) ∧ w = w' := by
  have HF := Lib.hid hF; clear hF
  have hl : s.data.toList.length = s.size := by simp
  by_cases hlt : i < s.size
  · have Hb := Lib.hid (bt_get s i hlt)
    clear h0 hl
    go_enter Tryd.func29, Tryd.ntmps29
    go_wp2_with fail
    refine (HF.out _ (UInt8.toNat_lt _)).mono ?_
    rw [← Hb.out]
    rintro e w' ⟨rfl, rfl⟩
    go_wp2
    go_ret
    exact ⟨rfl, rfl⟩
  · have Hb := Lib.hid (show p (bt s.data.toList i) = false by rw [bt_out (by omega)]; exact h0)
    clear h0 hl
    rw [Hb.out]
    go_enter Tryd.func29, Tryd.ntmps29
    go_wp2
    go_ret
    exact ⟨rfl, rfl⟩

theorem eg17 : ∀ args w, (callFunc 17 args).run Tryd.prog w = .ok (.enter 17 args) w := enters_of Tryd.func17 (by kernel_rfl) rfl
theorem eg18 : ∀ args w, (callFunc 18 args).run Tryd.prog w = .ok (.enter 18 args) w := enters_of Tryd.func18 (by kernel_rfl) rfl
theorem eg28 : ∀ args w, (callFunc 28 args).run Tryd.prog w = .ok (.enter 28 args) w := enters_of Tryd.func28 (by kernel_rfl) rfl
theorem eg47 : ∀ args w, (callFunc 47 args).run Tryd.prog w = .ok (.enter 47 args) w := enters_of Tryd.func47 (by kernel_rfl) rfl
theorem eg51 : ∀ args w, (callFunc 51 args).run Tryd.prog w = .ok (.enter 51 args) w := enters_of Tryd.func51 (by kernel_rfl) rfl
theorem eg52 : ∀ args w, (callFunc 52 args).run Tryd.prog w = .ok (.enter 52 args) w := enters_of Tryd.func52 (by kernel_rfl) rfl
theorem eg65 : ∀ args w, (callFunc 65 args).run Tryd.prog w = .ok (.enter 65 args) w := enters_of Tryd.func65 (by kernel_rfl) rfl
theorem eg66 : ∀ args w, (callFunc 66 args).run Tryd.prog w = .ok (.enter 66 args) w := enters_of Tryd.func66 (by kernel_rfl) rfl
theorem eg67 : ∀ args w, (callFunc 67 args).run Tryd.prog w = .ok (.enter 67 args) w := enters_of Tryd.func67 (by kernel_rfl) rfl
theorem eg68 : ∀ args w, (callFunc 68 args).run Tryd.prog w = .ok (.enter 68 args) w := enters_of Tryd.func68 (by kernel_rfl) rfl

set_option maxHeartbeats 400000 in
theorem point_c (c : Nat) (w : World) : Calls Tryd.prog 65 #[.int .u8 (c : Int)] w fun e w' => e = .returned (.bool (eqB 46 c)) ∧ w = w' := by
  go_enter Tryd.func65, Tryd.ntmps65
  go_wp2
  go_ret
  exact ⟨ret_b (by unfold eqB; rw [Bool.eq_iff_iff]; simp; omega), rfl⟩
set_option maxHeartbeats 400000 in
theorem sign_c (c : Nat) (w : World) : Calls Tryd.prog 68 #[.int .u8 (c : Int)] w fun e w' => e = .returned (.bool (cS c)) ∧ w = w' := by
  have h1 : cS c = (((c : Int) == 43) || ((c : Int) == 45)) := by
    unfold cS; rw [Bool.eq_iff_iff]; simp; omega
  rw [h1]
  generalize h2 : ((c : Int) == 43) = b
  clear h1
  cases b
  all_goals
    go_enter Tryd.func68, Tryd.ntmps68
    go_wp2
    go_ret
    exact ⟨ret_b (by simp), rfl⟩
set_option maxHeartbeats 400000 in
theorem other_c (c : Nat) (hc : c < 256) (w : World) : Calls Tryd.prog 66 #[.int .u8 (c : Int)] w fun e w' => e = .returned (.bool (cO c)) ∧ w = w' := by
  unfold cO
  generalize h2 : cL c = bl; generalize h3 : cE c = be
  have H2 := Lib.hid h2; have H3 := Lib.hid h3; clear h2 h3
  cases bl <;> cases be
  all_goals
    go_enter Tryd.func66, Tryd.ntmps66
    go_wp2_with (first | (go_at_call 26; refine (isLetter_c _ _).mono ?_; rw [H2.out]; rintro e w' ⟨rfl, rfl⟩) | (go_at_call 67; refine (isExp_c _ hc _).mono ?_; rw [H3.out]; rintro e w' ⟨rfl, rfl⟩))
    go_ret
    exact ⟨ret_b (by simp), rfl⟩
set_option maxHeartbeats 400000 in
theorem quo1_c (q c a : Nat) (w : World) (h : w.cell? ⟨a, 0, none⟩ = some (.int .u8 (q : Int))) : Calls Tryd.prog 51 (#[.int .u8 (c : Int)] ++ #[.pointer (some ⟨a, 0, none⟩)]) w fun e w' => e = .returned (.bool (neB q c)) ∧ w = w' := by
  show Calls Tryd.prog 51 #[.int .u8 (c : Int), .pointer (some ⟨a, 0, none⟩)] w _
  go_enter Tryd.func51, Tryd.ntmps51
  go_wp2
  go_ret
  exact ⟨ret_b (by unfold neB; rw [Bool.eq_iff_iff]; simp; omega), rfl⟩
set_option maxHeartbeats 400000 in
theorem quo2_c (q c a : Nat) (w : World) (h : w.cell? ⟨a, 0, none⟩ = some (.int .u8 (q : Int))) : Calls Tryd.prog 52 (#[.int .u8 (c : Int)] ++ #[.pointer (some ⟨a, 0, none⟩)]) w fun e w' => e = .returned (.bool (eqB q c)) ∧ w = w' := by
  show Calls Tryd.prog 52 #[.int .u8 (c : Int), .pointer (some ⟨a, 0, none⟩)] w _
  go_enter Tryd.func52, Tryd.ntmps52
  go_wp2
  go_ret
  exact ⟨ret_b (by unfold eqB; rw [Bool.eq_iff_iff]; simp; omega), rfl⟩

theorem runDigit_c (s : ByteArray) (i : Nat) (hi : i ≤ s.size) (hs : s.size ≤ 1000000) (w : World) :
    Calls Tryd.prog 16 #[.string s, .int .i64 (i : Int), .func (.func 28) #[] #[]] w fun e w' => e = .returned (.int .i64 (rn cD s.data.toList i : Int)) ∧ w = w' :=
  runEnd_c cD 28 #[] s i hi hs w eg28 fun c _ => isDigit_c c w
theorem runName_c (s : ByteArray) (i : Nat) (hi : i ≤ s.size) (hs : s.size ≤ 1000000) (w : World) :
    Calls Tryd.prog 16 #[.string s, .int .i64 (i : Int), .func (.func 47) #[] #[]] w fun e w' => e = .returned (.int .i64 (rn cI s.data.toList i : Int)) ∧ w = w' :=
  runEnd_c cI 47 #[] s i hi hs w eg47 fun c _ => inName_c c w
theorem runBlank_c (s : ByteArray) (i : Nat) (hi : i ≤ s.size) (hs : s.size ≤ 1000000) (w : World) :
    Calls Tryd.prog 16 #[.string s, .int .i64 (i : Int), .func (.func 18) #[] #[]] w fun e w' => e = .returned (.int .i64 (rn (eqB 32) s.data.toList i : Int)) ∧ w = w' :=
  runEnd_c (eqB 32) 18 #[] s i hi hs w eg18 fun c _ => blank_c c w
theorem runOk_c (s : ByteArray) (i : Nat) (hi : i ≤ s.size) (hs : s.size ≤ 1000000) (w : World) :
    Calls Tryd.prog 16 #[.string s, .int .i64 (i : Int), .func (.func 17) #[] #[]] w fun e w' => e = .returned (.int .i64 (rn cOk s.data.toList i : Int)) ∧ w = w' :=
  runEnd_c cOk 17 #[] s i hi hs w eg17 fun c _ => ok1_c c w
theorem runQuo_c (q a : Nat) (s : ByteArray) (i : Nat) (hi : i ≤ s.size) (hs : s.size ≤ 1000000) (w : World) (h : w.cell? ⟨a, 0, none⟩ = some (.int .u8 (q : Int))) :
    Calls Tryd.prog 16 #[.string s, .int .i64 (i : Int), .func (.func 51) #[] #[.pointer (some ⟨a, 0, none⟩)]] w fun e w' => e = .returned (.int .i64 (rn (neB q) s.data.toList i : Int)) ∧ w = w' :=
  runEnd_c (neB q) 51 _ s i hi hs w eg51 fun c _ => quo1_c q c a w h
theorem holdDigit_c (s : ByteArray) (i : Nat) (w : World) :
    Calls Tryd.prog 29 #[.string s, .int .i64 (i : Int), .func (.func 28) #[] #[]] w fun e w' => e = .returned (.bool (cD (bt s.data.toList i))) ∧ w = w' :=
  holds_c cD 28 #[] s i w eg28 rfl fun c _ => isDigit_c c w
theorem holdName_c (s : ByteArray) (i : Nat) (w : World) :
    Calls Tryd.prog 29 #[.string s, .int .i64 (i : Int), .func (.func 47) #[] #[]] w fun e w' => e = .returned (.bool (cI (bt s.data.toList i))) ∧ w = w' :=
  holds_c cI 47 #[] s i w eg47 rfl fun c _ => inName_c c w
theorem holdPoint_c (s : ByteArray) (i : Nat) (w : World) :
    Calls Tryd.prog 29 #[.string s, .int .i64 (i : Int), .func (.func 65) #[] #[]] w fun e w' => e = .returned (.bool (eqB 46 (bt s.data.toList i))) ∧ w = w' :=
  holds_c (eqB 46) 65 #[] s i w eg65 rfl fun c _ => point_c c w
theorem holdOther_c (s : ByteArray) (i : Nat) (w : World) :
    Calls Tryd.prog 29 #[.string s, .int .i64 (i : Int), .func (.func 66) #[] #[]] w fun e w' => e = .returned (.bool (cO (bt s.data.toList i))) ∧ w = w' :=
  holds_c cO 66 #[] s i w eg66 rfl fun c hc => other_c c hc w
theorem holdExp_c (s : ByteArray) (i : Nat) (w : World) :
    Calls Tryd.prog 29 #[.string s, .int .i64 (i : Int), .func (.func 67) #[] #[]] w fun e w' => e = .returned (.bool (cE (bt s.data.toList i))) ∧ w = w' :=
  holds_c cE 67 #[] s i w eg67 rfl fun c hc => isExp_c c hc w
theorem holdSign_c (s : ByteArray) (i : Nat) (w : World) :
    Calls Tryd.prog 29 #[.string s, .int .i64 (i : Int), .func (.func 68) #[] #[]] w fun e w' => e = .returned (.bool (cS (bt s.data.toList i))) ∧ w = w' :=
  holds_c cS 68 #[] s i w eg68 rfl fun c _ => sign_c c w
theorem holdQuo_c (q a : Nat) (hq : q ≠ 0) (s : ByteArray) (i : Nat) (w : World) (h : w.cell? ⟨a, 0, none⟩ = some (.int .u8 (q : Int))) :
    Calls Tryd.prog 29 #[.string s, .int .i64 (i : Int), .func (.func 52) #[] #[.pointer (some ⟨a, 0, none⟩)]] w fun e w' => e = .returned (.bool (eqB q (bt s.data.toList i))) ∧ w = w' :=
  holds_c (eqB q) 52 _ s i w eg52 (by simp [eqB]; omega) fun c _ => quo2_c q c a w h
end Go.Proofs.YtcafnpfhjiaolaaDoor

/-
  PROVED: the law FloatSums (what sums and differences are, and their flags, is the document's answer) returns true for every int and every struct of three ints and leaves them as they were. Conditions: the table of class names holds what the program's text lays (tied by the card).
-/
import Derived.Test.YtfdenbgmogojeaaDoorLawB
import Derived.Test.YtfdenbgmogojeaaDoorRefW
import Derived.Test.YtfdenbgmogojeaaDoorRefF
import Derived.Test.YtfdenbgmogojeaaDoorCards
import Derived.Test.YtfdenbgmogojeaaDoorTie
import Derived.SevenTiedAt
import Derived.Lib.SmallJoins
namespace Go.Proofs.YtfdenbgmogojeaaDoor
open Go.RowKit

theorem tk_cls (k W D E a : Int) (hk : KK k W D E) (hv : okB W a = true) (wx : ByteArray) (h : whS (cls D (siz W a)) = wx) : Tk k a wx (rS W D a) (tM W D a) (rE D (siz W a)) := by
  have q := tk_of k W D E a hk hv
  rw [h] at q; exact q
theorem cls_zero (D z : Int) (h : cls D z = 0) : z = 0 := by
  unfold cls at h; repeat' split at h
  all_goals omega

theorem rAdd_fin (k W D E mode a b : Int) (hk : KK k W D E) (hm : Mode mode) (ha : okB W a = true) (hb : okB W b = true) (ca : cls D (siz W a) ≤ 2) (cb : cls D (siz W b) ≤ 2) (hz : sgn W a = sgn W b → ¬ (cls D (siz W a) = 0 ∧ cls D (siz W b) = 0))
    (hq : ∀ w, Calls Tryd.prog 51 #[.int .i64 k, .int .i64 mode, .int .i64 a, .int .i64 b] w fun e w' => e = .returned (.bool true) ∧ w = w') (w : World) :
    Calls Tryd.prog 16 #[.int .i64 k, .int .i64 mode, .int .i64 a, .int .i64 b] w fun e w' => e = .returned (.tuple #[.int .i64 (addF W D mode a b).1, .int .i64 (addF W D mode a b).2, .int .i64 0]) ∧ Below w.heap.size w w' := by
  have h := hk.kl
  have hdoc := add_doc W D E mode a b h ca cb hz
  have na := cls_nn D (siz W a)
  have nb := cls_nn D (siz W b)
  obtain ⟨a0, a1⟩ := siz_b W D E a h
  obtain ⟨b0, b1⟩ := siz_b W D E b h
  obtain ⟨m0, m1, _⟩ := mant_b W D E _ h a0 a1
  obtain ⟨n0, n1, _⟩ := mant_b W D E _ h b0 b1
  obtain ⟨e1, e2, _⟩ := expo_b W D E _ h a0 ca
  obtain ⟨f1, f2, _⟩ := expo_b W D E _ h b0 cb
  have hbd := hid_b W D E h
  have ra : rS W D a = sgn W a := by unfold rS; rw [if_neg (by omega)]
  have rb : rS W D b = sgn W b := by unfold rS; rw [if_neg (by omega)]
  have hX : tM W D a < 18014398509481984 := by unfold tM; omega
  have hY : tM W D b < 18014398509481984 := by unfold tM; omega
  have hex : -1100 ≤ rE D (siz W a) ∧ rE D (siz W a) ≤ 1000 := by unfold rE; split <;> omega
  have hey : -1100 ≤ rE D (siz W b) ∧ rE D (siz W b) ≤ 1000 := by unfold rE; split <;> omega
  have sa : Sgn (rS W D a) := by rw [ra]; exact sgn_s W a
  have sb : Sgn (rS W D b) := by rw [rb]; exact sgn_s W b
  have tz : ∀ c, c = 0 → whS c = ⟨#[122, 101, 114, 111]⟩ := fun c q => by rw [q]; rfl
  have tf : ∀ c, c = 1 ∨ c = 2 → whS c = ⟨#[102, 105, 110, 105, 116, 101]⟩ := fun c q => by rcases q with q | q <;> (rw [q]; rfl)
  have hi : rE D (siz W a) - min (rE D (siz W a)) (rE D (siz W b)) = ((rE D (siz W a) - min (rE D (siz W a)) (rE D (siz W b))).toNat : Int) := by omega
  have hj : rE D (siz W b) - min (rE D (siz W a)) (rE D (siz W b)) = ((rE D (siz W b) - min (rE D (siz W a)) (rE D (siz W b))).toNat : Int) := by omega
  have hres : docF W D mode (rS W D a) (tM W D a * 2 ^ (rE D (siz W a) - min (rE D (siz W a)) (rE D (siz W b))).toNat) (rS W D b) (tM W D b * 2 ^ (rE D (siz W b) - min (rE D (siz W a)) (rE D (siz W b))).toNat) (min (rE D (siz W a)) (rE D (siz W b))) = ((addF W D mode a b).1, (addF W D mode a b).2) := by rw [hdoc]; rfl
  by_cases za : cls D (siz W a) = 0
  · have ta := tk_cls k W D E a hk ha _ (tz _ za)
    by_cases zb : cls D (siz W b) = 0
    · have tb := tk_cls k W D E b hk hb _ (tz _ zb)
      have hs : ¬ rS W D a = rS W D b := by rw [ra, rb]; exact fun q => hz q ⟨za, zb⟩
      exact rAdd_zzd k W D E mode a b _ _ _ _ _ _ hk hq ta tb hm sa sb hX hY hex hey _ _ _ _ _ _ _ rfl hi hj rfl rfl hres hs w
    · have tb := tk_cls k W D E b hk hb _ (tf _ (by omega))
      by_cases hs : rS W D a = rS W D b
      · exact rAdd_zfs k W D E mode a b _ _ _ _ _ _ hk hq ta tb hm sa sb hX hY hex hey _ _ _ _ _ _ _ rfl hi hj rfl rfl hres hs w
      · exact rAdd_zfd k W D E mode a b _ _ _ _ _ _ hk hq ta tb hm sa sb hX hY hex hey _ _ _ _ _ _ _ rfl hi hj rfl rfl hres hs w
  · have ta := tk_cls k W D E a hk ha _ (tf _ (by omega))
    by_cases zb : cls D (siz W b) = 0
    · have tb := tk_cls k W D E b hk hb _ (tz _ zb)
      by_cases hs : rS W D a = rS W D b
      · exact rAdd_fzs k W D E mode a b _ _ _ _ _ _ hk hq ta tb hm sa sb hX hY hex hey _ _ _ _ _ _ _ rfl hi hj rfl rfl hres hs w
      · exact rAdd_fzd k W D E mode a b _ _ _ _ _ _ hk hq ta tb hm sa sb hX hY hex hey _ _ _ _ _ _ _ rfl hi hj rfl rfl hres hs w
    · have tb := tk_cls k W D E b hk hb _ (tf _ (by omega))
      by_cases hs : rS W D a = rS W D b
      · exact rAdd_ffs k W D E mode a b _ _ _ _ _ _ hk hq ta tb hm sa sb hX hY hex hey _ _ _ _ _ _ _ rfl hi hj rfl rfl hres hs w
      · exact rAdd_ffd k W D E mode a b _ _ _ _ _ _ hk hq ta tb hm sa sb hX hY hex hey _ _ _ _ _ _ _ rfl hi hj rfl rfl hres hs w

theorem add_zz (W D mode a b : Int) (ca : cls D (siz W a) = 0) (cb : cls D (siz W b) = 0) (hs : sgn W a = sgn W b) : addF W D mode a b = (jn W (sgn W a) 0, 0) := by
  have za := cls_zero _ _ ca
  have zb := cls_zero _ _ cb
  have m0 : mant D 0 = 0 := by unfold mant; rw [if_pos (by unfold cls; simp)]
  unfold addF
  rw [if_neg (by omega)]
  unfold opAdd numAdd
  rw [if_neg (by omega), if_neg (by omega), if_neg (by omega), za, zb, m0, hs]
  have hN : sumN (sgn W b) 0 (sgn W b) 0 0 = 0 := by
    unfold sumN; rw [if_pos rfl]; rfl
  have hF : fN (sgn W b) 0 (expo D 0) (sgn W b) 0 (expo D 0) = 0 := by
    unfold fN; rw [if_neg (Int.lt_irrefl _), Int.sub_self]; exact hN
  unfold finSum
  rw [if_pos hF, if_pos rfl]

theorem rAdd_c (k W D E mode a b : Int) (hk : KK k W D E) (hm : Mode mode) (ha : okB W a = true) (hb : okB W b = true) (hi : I64 a) (w : World) :
    Calls Tryd.prog 16 #[.int .i64 k, .int .i64 mode, .int .i64 a, .int .i64 b] w fun e w' => e = .returned (.tuple #[.int .i64 (addF W D mode a b).1, .int .i64 (addF W D mode a b).2, .int .i64 0]) ∧ Below w.heap.size w w' := by
  have h := hk.kl
  have na := cls_nn D (siz W a)
  have nb := cls_nn D (siz W b)
  have hq : ∀ w, Calls Tryd.prog 51 #[.int .i64 k, .int .i64 mode, .int .i64 a, .int .i64 b] w fun e w' => e = .returned (.bool true) ∧ w = w' := fun w' => by
    have q := rasked_c k W D E mode a b hk hm w'
    rw [ha, hb] at q; exact q
  have tz : ∀ c, c = 0 → whS c = ⟨#[122, 101, 114, 111]⟩ := fun c q => by rw [q]; rfl
  have tf : ∀ c, c = 1 ∨ c = 2 → whS c = ⟨#[102, 105, 110, 105, 116, 101]⟩ := fun c q => by rcases q with q | q <;> (rw [q]; rfl)
  have ti : ∀ c, c = 3 → whS c = ⟨#[105, 110, 102, 105, 110, 105, 116, 101]⟩ := fun c q => by rw [q]; rfl
  have tn : ∀ c, c = 4 → whS c = ⟨#[110, 111, 110, 101]⟩ := fun c q => by rw [q]; rfl
  by_cases n4 : cls D (siz W a) = 4 ∨ cls D (siz W b) = 4
  · have hN : addF W D mode a b = (jn W 0 (qz D), 0) := by unfold addF; rw [if_pos n4]
    rw [hN]
    by_cases a4 : cls D (siz W a) = 4
    · exact rAdd_n k W D E mode a b _ _ _ _ _ _ _ hk hq (tk_cls k W D E a hk ha _ (tn _ a4)) (tk_of k W D E b hk hb) w
    · have tb := tk_cls k W D E b hk hb _ (tn _ (by omega))
      have c5 : cls D (siz W a) = 0 ∨ (cls D (siz W a) = 1 ∨ cls D (siz W a) = 2) ∨ cls D (siz W a) = 3 := by omega
      rcases c5 with c | c | c
      · exact rAdd_zn k W D E mode a b _ _ _ _ _ _ hk hq (tk_cls k W D E a hk ha _ (tz _ c)) tb w
      · exact rAdd_fn k W D E mode a b _ _ _ _ _ _ hk hq (tk_cls k W D E a hk ha _ (tf _ c)) tb w
      · exact rAdd_in k W D E mode a b _ _ _ _ _ _ hk hq (tk_cls k W D E a hk ha _ (ti _ c)) tb w
  have ra : rS W D a = sgn W a := by unfold rS; rw [if_neg (by omega)]
  have rb : rS W D b = sgn W b := by unfold rS; rw [if_neg (by omega)]
  have sa : Sgn (rS W D a) := by rw [ra]; exact sgn_s W a
  have sb : Sgn (rS W D b) := by rw [rb]; exact sgn_s W b
  have hO : addF W D mode a b = opAdd W D mode a b := by unfold addF; rw [if_neg n4]
  by_cases a3 : cls D (siz W a) = 3
  · have ta := tk_cls k W D E a hk ha _ (ti _ a3)
    by_cases b3 : cls D (siz W b) = 3
    · have tb := tk_cls k W D E b hk hb _ (ti _ b3)
      by_cases hs : rS W D a = rS W D b
      · have hN : addF W D mode a b = (jn W (rS W D a) (endl D), 0) := by
          rw [hO, ra]; unfold opAdd numAdd
          rw [if_neg (by rw [ra, rb] at hs; omega), if_pos a3]
        rw [hN]
        exact rAdd_ii k W D E mode a b _ _ _ _ _ _ hk hq ta tb (by simp [hs]) sa w
      · have hN : addF W D mode a b = (jn W 0 (qz D), 1) := by
          rw [hO]; unfold opAdd numAdd
          rw [if_pos ⟨a3, b3, by rw [ra, rb] at hs; exact hs⟩]
        rw [hN]
        exact rAdd_opp k W D E mode a b _ _ _ _ _ _ hk hq ta tb (by simp [hs]) w
    · have hN : addF W D mode a b = (jn W (rS W D a) (endl D), 0) := by
        rw [hO, ra]; unfold opAdd numAdd
        rw [if_neg (by omega), if_pos a3]
      rw [hN]
      by_cases b0 : cls D (siz W b) = 0
      · exact rAdd_iz k W D E mode a b _ _ _ _ _ _ hk hq ta (tk_cls k W D E b hk hb _ (tz _ b0)) sa w
      · exact rAdd_if k W D E mode a b _ _ _ _ _ _ hk hq ta (tk_cls k W D E b hk hb _ (tf _ (by omega))) sa w
  by_cases b3 : cls D (siz W b) = 3
  · have tb := tk_cls k W D E b hk hb _ (ti _ b3)
    have hN : addF W D mode a b = (jn W (rS W D b) (endl D), 0) := by
      rw [hO, rb]; unfold opAdd numAdd
      rw [if_neg (by omega), if_neg a3, if_pos b3]
    rw [hN]
    by_cases a0 : cls D (siz W a) = 0
    · exact rAdd_zi k W D E mode a b _ _ _ _ _ _ hk hq (tk_cls k W D E a hk ha _ (tz _ a0)) tb sb w
    · exact rAdd_fi k W D E mode a b _ _ _ _ _ _ hk hq (tk_cls k W D E a hk ha _ (tf _ (by omega))) tb sb w
  by_cases hz : sgn W a = sgn W b ∧ cls D (siz W a) = 0 ∧ cls D (siz W b) = 0
  · obtain ⟨hs, a0, b0⟩ := hz
    have hN := add_zz W D mode a b a0 b0 hs
    have he := jn_eta W D E a h ha hi
    rw [cls_zero _ _ a0] at he
    rw [he] at hN
    rw [hN]
    exact rAdd_zz k W D E mode a b _ _ _ _ _ _ hk hq (tk_cls k W D E a hk ha _ (tz _ a0)) (tk_cls k W D E b hk hb _ (tz _ b0)) (by rw [ra, rb, hs]; simp) w
  · exact rAdd_fin k W D E mode a b hk hm ha hb (by omega) (by omega) (fun q r => hz ⟨q, r.1, r.2⟩) hq w

/-- Where the document says no. -/
theorem asked_bad (k mode a b : Int) (hbad : BadTwo k mode a b) (w : World) :
    Calls Tryd.prog 51 #[.int .i64 k, .int .i64 mode, .int .i64 a, .int .i64 b] w fun e w' => e = .returned (.bool false) ∧ w = w' := by
  by_cases hm : Mode mode
  · rcases hbad with hk | ⟨W, D, E, hk, hbad⟩
    · exact rasked_nok k mode a b hm hk w
    · rcases hbad with hm' | ⟨_, ha | ⟨ha, hb⟩⟩
      · exact absurd hm hm'
      · have q := rasked_c k W D E mode a b hk hm w
        rw [ha, Bool.false_and] at q; exact q
      · have q := rasked_c k W D E mode a b hk hm w
        rw [ha, hb] at q; exact q
  · exact rasked_nom k mode a b hm w

set_option maxHeartbeats 2000000 in
theorem rAdd_bad (k mode a b : Int) (hbad : BadTwo k mode a b) (w : World) :
    Calls Tryd.prog 16 #[.int .i64 k, .int .i64 mode, .int .i64 a, .int .i64 b] w fun e w' => e = .returned (.tuple #[.int .i64 0, .int .i64 0, .int .i64 2]) ∧ Below w.heap.size w w' := by
  have H := Lib.hid (fun w' => asked_bad k mode a b hbad w'); clear hbad
  go_enter Tryd.func16, Tryd.ntmps16
  go_wp2_with fail
  refine (H.out _).mono ?_
  rintro e w0 ⟨rfl, rfl⟩
  go_wp2
  go_ret3
  exact ⟨rfl, Below.refl _ _⟩

set_option maxHeartbeats 2000000 in
theorem rSub_bad (k mode a b : Int) (hbad : BadTwo k mode a b) (w : World) :
    Calls Tryd.prog 18 #[.int .i64 k, .int .i64 mode, .int .i64 a, .int .i64 b] w fun e w' => e = .returned (.tuple #[.int .i64 0, .int .i64 0, .int .i64 2]) ∧ Below w.heap.size w w' := by
  have H := Lib.hid (fun w' => asked_bad k mode a b hbad w'); clear hbad
  go_enter Tryd.func18, Tryd.ntmps18
  go_wp2_with fail
  refine (H.out _).mono ?_
  rintro e w0 ⟨rfl, rfl⟩
  go_wp2
  go_ret3
  exact ⟨rfl, Below.refl _ _⟩

theorem neg_parts (W D E b : Int) (h : KL W D E) (hb : okB W b = true) : okB W (negF W D b) = true ∧ (cls D (siz W b) = 4 → cls D (siz W (negF W D b)) = 4) ∧ (cls D (siz W b) ≠ 4 → siz W (negF W D b) = siz W b ∧ sgn W (negF W D b) = 1 - sgn W b) := by
  obtain ⟨b0, b1⟩ := siz_b W D E b h
  have hs := sgn_s W b
  have hs' : Sgn (1 - sgn W b) := by unfold Sgn at hs ⊢; omega
  by_cases c : cls D (siz W b) = 4
  · have hq : 0 ≤ qz D ∧ qz D < hf W ∧ cls D (qz D) = 4 := by rcases h with ⟨rfl, rfl, rfl⟩ | ⟨rfl, rfl, rfl⟩ | ⟨rfl, rfl, rfl⟩ <;> decide
    have e : negF W D b = jn W 0 (qz D) := by unfold negF; rw [if_pos c]
    obtain ⟨p1, p2, p3, p4⟩ := jn_parts W D E 0 (qz D) h (.inl rfl) hq.1 hq.2.1
    rw [e]
    exact ⟨p3, fun _ => by rw [p1]; exact hq.2.2, fun q => absurd c q⟩
  · have e : negF W D b = jn W (1 - sgn W b) (siz W b) := by unfold negF; rw [if_neg c]
    obtain ⟨p1, p2, p3, p4⟩ := jn_parts W D E (1 - sgn W b) (siz W b) h hs' b0 b1
    rw [e]
    exact ⟨p3, fun q => absurd q c, fun _ => ⟨p1, p2⟩⟩
theorem add_neg (W D E mode a b : Int) (h : KL W D E) (hb : okB W b = true) : addF W D mode a (negF W D b) = subF W D mode a b := by
  obtain ⟨_, h4, hn⟩ := neg_parts W D E b h hb
  unfold addF subF
  by_cases c : cls D (siz W b) = 4
  · rw [if_pos (.inr (h4 c)), if_pos (.inr c)]
  · obtain ⟨e1, e2⟩ := hn c
    rw [e1]
    by_cases a4 : cls D (siz W a) = 4
    · rw [if_pos (.inl a4), if_pos (.inl a4)]
    · rw [if_neg (by omega), if_neg (by omega)]
      unfold opAdd opSub
      rw [e1, e2]

set_option maxHeartbeats 2000000 in
theorem rSub_c (k W D E mode a b : Int) (hk : KK k W D E) (hm : Mode mode) (ha : okB W a = true) (hb : okB W b = true) (hi : I64 a) (w : World) :
    Calls Tryd.prog 18 #[.int .i64 k, .int .i64 mode, .int .i64 a, .int .i64 b] w fun e w' => e = .returned (.tuple #[.int .i64 (subF W D mode a b).1, .int .i64 (subF W D mode a b).2, .int .i64 0]) ∧ Below w.heap.size w w' := by
  have hq : ∀ w, Calls Tryd.prog 51 #[.int .i64 k, .int .i64 mode, .int .i64 a, .int .i64 b] w fun e w' => e = .returned (.bool true) ∧ w = w' := fun w' => by
    have q := rasked_c k W D E mode a b hk hm w'
    rw [ha, hb] at q; exact q
  have Hq := Lib.hid hq; clear hq
  have Hn := Lib.hid (fun w' => rnegative_c k W D E b hk hb w')
  have Ha := Lib.hid (fun w' => rAdd_c k W D E mode a (negF W D b) hk hm ha (neg_parts W D E b hk.kl hb).1 hi w')
  rw [add_neg W D E mode a b hk.kl hb] at Ha
  clear hk hm ha hb hi
  go_enter Tryd.func18, Tryd.ntmps18
  go_wp2_with fail
  refine (Hq.out _).mono ?_
  rintro e w0 ⟨rfl, rfl⟩
  go_wp2_with fail
  refine (Hn.out _).mono ?_
  rintro e w1 ⟨rfl, hB⟩
  go_wp2_with fail
  refine (Ha.out _).mono ?_
  rintro e w2 ⟨rfl, hb⟩
  have hB := bt hB hb
  go_wp2
  go_ret3
  exact ⟨rfl, hB⟩
end Go.Proofs.YtfdenbgmogojeaaDoor
namespace Go.Proofs.YtfdenbgmogojeaaDoor
open Go Go.ChangeShapes Go.WideShapes Go.ChangeAt Go.WideMaps Go.WideElems Go.RowKit

theorem two_or (k mode a b : Int) : BadTwo k mode a b ∨ ∃ W D E, KK k W D E ∧ Mode mode ∧ okB W a = true ∧ okB W b = true := by
  have hk : NoK k ∨ (∃ W D E, KK k W D E) := by
    by_cases c2 : k = 2
    · exact .inr ⟨16, 11, 5, .inl ⟨c2, rfl, rfl, rfl⟩⟩
    by_cases c4 : k = 4
    · exact .inr ⟨32, 24, 8, .inr (.inl ⟨c4, rfl, rfl, rfl⟩)⟩
    by_cases c8 : k = 8
    · exact .inr ⟨64, 53, 11, .inr (.inr ⟨c8, rfl, rfl, rfl⟩)⟩
    · exact .inl ⟨by simp [c2], by simp [c4], by simp [c8]⟩
  rcases hk with hk | ⟨W, D, E, hk⟩
  · exact .inl (.inl hk)
  · by_cases hm : Mode mode
    · cases ha : okB W a
      · exact .inl (.inr ⟨W, D, E, hk, .inr ⟨hm, .inl ha⟩⟩)
      · cases hb : okB W b
        · exact .inl (.inr ⟨W, D, E, hk, .inr ⟨hm, .inr ⟨ha, hb⟩⟩⟩)
        · exact .inr ⟨W, D, E, hk, hm, ha, hb⟩
    · exact .inl (.inr ⟨W, D, E, hk, .inl hm⟩)

set_option maxHeartbeats 1000000 in
theorem sums_law (k mode x y a n f c p g : Int)
    (h15 : ∀ w, Calls Tryd.prog 15 #[.int .i64 k, .int .i64 mode, .int .i64 x, .int .i64 y] w fun e' w' => e' = .returned (.tuple #[.int .i64 a, .int .i64 n, .int .i64 f]) ∧ Below w.heap.size w w')
    (h16 : ∀ w, Calls Tryd.prog 16 #[.int .i64 k, .int .i64 mode, .int .i64 x, .int .i64 y] w fun e' w' => e' = .returned (.tuple #[.int .i64 a, .int .i64 n, .int .i64 f]) ∧ Below w.heap.size w w')
    (h17 : ∀ w, Calls Tryd.prog 17 #[.int .i64 k, .int .i64 mode, .int .i64 x, .int .i64 y] w fun e' w' => e' = .returned (.tuple #[.int .i64 c, .int .i64 p, .int .i64 g]) ∧ Below w.heap.size w w')
    (h18 : ∀ w, Calls Tryd.prog 18 #[.int .i64 k, .int .i64 mode, .int .i64 x, .int .i64 y] w fun e' w' => e' = .returned (.tuple #[.int .i64 c, .int .i64 p, .int .i64 g]) ∧ Below w.heap.size w w')
    (w : World) (hcn : CN w) :
    Calls Tryd.prog 3 #[.int .i64 k, .agg #[.int .i64 mode, .int .i64 x, .int .i64 y]] w fun e w' => e = .returned (.bool true) ∧ Below w.heap.size w w' := by
  have H15 := Lib.hid h15; clear h15
  have H16 := Lib.hid h16; clear h16
  have H17 := Lib.hid h17; clear h17
  have H18 := Lib.hid h18; clear h18
  have Hn := Lib.hid hcn; clear hcn
  have t1 : (a == a) = true := by simp
  have t2 : (n == n) = true := by simp
  have t3 : (f == f) = true := by simp
  have t4 : (c == c) = true := by simp
  have t5 : (p == p) = true := by simp
  have t6 : (g == g) = true := by simp
  go_enter Tryd.func3, Tryd.ntmps3
  go_wp2_with fail
  refine (H15.out _).mono ?_
  rintro e' w1 ⟨rfl, hb⟩
  have hL := (Has.new w [.int .i64 mode, .int .i64 x, .int .i64 y] 23).keep hb
  have hB : Below w.heap.size w w1 := bt (by go_grown) hb
  obtain ⟨l0, l1, l2⟩ := hL.c3
  clear hb
  go_wp2_with fail
  refine (H16.out _).mono ?_
  rintro e w2 ⟨rfl, hb⟩
  have hB := bt hB hb
  have hL := hL.keep hb
  clear l0 l1 l2 hb
  obtain ⟨l0, l1, l2⟩ := hL.c3
  go_wp2_with fail
  refine (H17.out _).mono ?_
  rintro e w3 ⟨rfl, hb⟩
  have hB := bt hB hb
  have hL := hL.keep hb
  clear l0 l1 l2 hb
  obtain ⟨l0, l1, l2⟩ := hL.c3
  go_wp2_with fail
  refine (H18.out _).mono ?_
  rintro e w4 ⟨rfl, hb⟩
  have hB := bt hB hb
  go_wp2_with fail
  refine (Awake_c _ (Hn.out.keep hB)).mono ?_
  rintro e w5 ⟨rfl, hb⟩
  have hB := bt hB hb
  go_wp2
  go_ret
  exact ⟨rfl, hB⟩

theorem floatSums_walk (k mode x y : Int) (_ : I64 k) (_ : I64 mode) (hi : I64 x) (_ : I64 y) (w : World) (hcn : CN w) :
    Calls Tryd.prog 3 #[.int .i64 k, .agg #[.int .i64 mode, .int .i64 x, .int .i64 y]] w fun e w' => e = .returned (.bool true) ∧ Below w.heap.size w w' := by
  rcases two_or k mode x y with hb | ⟨W, D, E, hk, hm, hx, hy⟩
  · exact sums_law k mode x y 0 0 2 0 0 2 (fun w' => Add_bad k mode x y hb w') (fun w' => rAdd_bad k mode x y hb w') (fun w' => Sub_bad k mode x y hb w') (fun w' => rSub_bad k mode x y hb w') w hcn
  · exact sums_law k mode x y _ _ _ _ _ _ (fun w' => Add_c k W D E mode x y hk hm hx hy w') (fun w' => rAdd_c k W D E mode x y hk hm hx hy hi w') (fun w' => Sub_c k W D E mode x y hk hm hx hy w') (fun w' => rSub_c k W D E mode x y hk hm hx hy hi w') w hcn

set_option maxRecDepth 100000 in
theorem floatSums_lifted (os : Os) (started : os.Started) (H : Type) (enc : TypeId × Value → H) :
    ReturnsInHanded {} Tryd.checked os 3 .any (fun w args => (Rows.floatSumsSpec.pre enc Tryd.prog Tryd.f3 [] false w args ∧ laidMetH Tryd.prog laidL w) ∧ sizedMet enc Tryd.prog Tryd.f3 (OpenSpec.ofChange Rows.floatSumsSpec) false w args)
      (Rows.floatSumsSpec.post enc Tryd.prog Tryd.f3 false true false false) := by
  refine returnsInHanded_of_change_and (C := Tryd.checked) (X := fun w _ => laidMetH Tryd.prog laidL w) (fun _ _ _ hh h => h.of_heap hh) own started (by kernel_rfl) Tryd.func3
    (ChangeSpec.witness_shaped (enc := enc) (C := Tryd.checked) (os := os) (X := fun w _ => laidMetH Tryd.prog laidL w) false (World.doorLaid Tryd.prog 400 os) #[.int .i64 0, .agg #[.int .i64 0, .int .i64 0, .int .i64 0]] 8 rfl (World.shaped_of_RefB (by kernel_rfl) (by kernel_rfl)) (by kernel_rfl) (by kernel_rfl) (by kernel_rfl) (door_met os _)) ?_
  intro W base args ds gs before hval0 hW _ _ hL _
  have hval : ∀ (j : Nat) t v, Tryd.f3.params[j]? = some t → args[j]? = some v → Value.okWide Tryd.prog W .any base t v := hval0
  have hW' := hW
  obtain ⟨p, q, hA0, hV, rfl, hfz, hnd⟩ := hW
  have hA : DataW.TrodAll enc Tryd.prog W 0 (fun _ => true) true Tryd.f3.params.toList args.toList ds p := hA0
  rw [Tryd.params3] at hA hval
  obtain ⟨v0, vs0, d0, ds0, p0, q0, hargs, rfl, rfl, h0, r0⟩ := trodAll_cons hA
  obtain ⟨v1, vs1, d1, ds1, p1, q1, rfl, rfl, rfl, h1, r1⟩ := trodAll_cons r0
  obtain ⟨rfl, rfl, rfl⟩ := trodAll_nil r1
  obtain rfl : args = #[v0, v1] := by cases args; simp_all
  obtain ⟨rfl, rfl⟩ := trodVars_none hV
  obtain ⟨a0, rfl, rfl, rfl, w0⟩ := open_int Tryd.underlying3 (hval 0 3 v0 rfl rfl) h0
  obtain ⟨c1_0, c1_1, c1_2, y1_0, y1_1, y1_2, m1, rfl, rfl, rfl, g1_0, g1_1, g1_2⟩ := Go.Joins.open_agg3 Tryd.underlying23 (by kernel_rfl) (show Tryd.prog.cellsOf 23 = 3 by kernel_rfl) (hval 1 23 v1 rfl rfl) h1
  obtain ⟨b1_0, e1_0, rfl, x1_0⟩ := DataW.trod_int Tryd.underlying3 g1_0
  simp only [List.cons.injEq, and_true] at e1_0
  subst e1_0
  obtain ⟨b1_1, e1_1, rfl, x1_1⟩ := DataW.trod_int Tryd.underlying3 g1_1
  simp only [List.cons.injEq, and_true] at e1_1
  subst e1_1
  obtain ⟨b1_2, e1_2, rfl, x1_2⟩ := DataW.trod_int Tryd.underlying3 g1_2
  simp only [List.cons.injEq, and_true] at e1_2
  subst e1_2
  have hcn := of_laid hL
  clear hA0 hval0
  simp only [List.append_nil] at hW'
  refine (floatSums_walk a0 b1_0 b1_1 b1_2 (by have := bounds_i64 w0; unfold I64; omega) (by have := bounds_i64 x1_0; unfold I64; omega) (by have := bounds_i64 x1_1; unfold I64; omega) (by have := bounds_i64 x1_2; unfold I64; omega) W hcn).mono fun e W' ⟨he, hb⟩ => ?_
  subst he
  exact ⟨_, rfl, post_plain hW' (fun _ _ _ => (trodAll_cons_mk (shut_bool Tryd.underlying4 _) trodAll_mk0)) (fun _ => (trodAll_cons_mk (shut_int Tryd.underlying3 w0) (trodAll_cons_mk (Go.Joins.shut_agg3 (y0 := (.lit (.int .i64 b1_0), [])) (y1 := (.lit (.int .i64 b1_1), [])) (y2 := (.lit (.int .i64 b1_2), [])) Tryd.underlying23 (by kernel_rfl) (show Tryd.prog.cellsOf 23 = 3 by kernel_rfl) ⟨1, by simp [DataW.trod, Tryd.underlying3, x1_0]⟩ ⟨1, by simp [DataW.trod, Tryd.underlying3, x1_1]⟩ ⟨1, by simp [DataW.trod, Tryd.underlying3, x1_2]⟩) trodAll_mk0))) (fun _ => rfl) hb (ok_one (by kernel_rfl) rfl (okWide_bool_mk Tryd.underlying4 _))⟩

theorem floatSums_holds : Rows.FloatSumsSaid :=
  OpenClaim.holds_of_wide 3 Tryd.f3 rfl rfl rfl rfl rfl rfl rfl ⟨rfl, rfl, rfl, rfl, rfl⟩ rfl rfl rfl rfl rfl (by kernel_rfl) Tryd.func3 (by kernel_rfl)
    (of_decide_eq_true (by kernel_rfl)) (by unfold Func.isWrapper; first | (rw [if_pos (by decide +kernel)]; kernel_rfl) | (rw [if_neg (by decide +kernel)]; exact ⟨rfl, rfl⟩))
    (fun os started H enc _ => floatSums_lifted os started H enc)

theorem floatSums_card : Rows.FloatSumsCardSaid :=
  Claim7.holds_tied_plain_at .later [] [.data] true Rows.floatSumsCard.stood.harness false
    floatSums_holds (fun _ h => by cases h) (by kernel_rfl) (fun _ h => by cases h) floatSums_row_tie rfl ⟨rfl, rfl⟩ (by kernel_rfl) rfl
    (fun f fn hf hfn => by
      obtain rfl : f = 3 := Option.some.inj ((show Tryd.prog.funcNamed "quadrat/quadratlaw01.FloatSums" = some 3 by kernel_rfl).symm.trans hf) |>.symm
      obtain rfl : fn = Tryd.f3 := (Option.some.inj (Tryd.func3.symm.trans hfn)).symm
      exact ⟨by kernel_rfl, fun j t ht => by
        rw [Tryd.params3] at ht
        have hm : t ∈ [3, 23] := by simpa using Array.mem_of_getElem? ht
        have hall : ([3, 23].all fun u => !Tryd.prog.wantsStandIn u) = true := by kernel_rfl
        exact (show Tryd.prog.wantsStandIn t = false by simpa using List.all_eq_true.1 hall t hm)⟩)
    (by kernel_rfl)
#print axioms floatSums_card
end Go.Proofs.YtfdenbgmogojeaaDoor

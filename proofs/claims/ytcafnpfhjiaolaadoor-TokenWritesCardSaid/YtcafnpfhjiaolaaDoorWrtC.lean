/- Contract of the document's answer's Write: what is written of tokens. -/
import Derived.Test.YtcafnpfhjiaolaaDoorWrtB
namespace Go.Proofs.YtcafnpfhjiaolaaDoor
open Go.RowKit

/-- What Write answers. -/
def wrV (l : List Tok) : Value := if l.all vP = true then .tuple #[.string ⟨(wrs l).toArray⟩, .int .i64 0] else .tuple #[.string ⟨#[]⟩, .int .i64 2]
theorem wrs_succ {l : List Tok} {i : Nat} {t : Tok} (h : l[i]? = some t) : wrs (l.take (i + 1)) = (if i = 0 then [] else wrs (l.take i) ++ [32]) ++ wr t := by
  cases l with
  | nil => cases h
  | cons u l =>
    cases i with
    | zero =>
      simp at h
      subst h
      unfold wrs
      simp [Lib.join_one]
    | succ i =>
      simp at h
      unfold wrs
      rw [List.take_succ_cons, List.take_succ_cons, List.map_cons, List.map_cons, Lib.join_cons, Lib.join_cons, List.map_take, List.map_take, Lib.joinTail_take_succ _ _ _ (wr t) (by rw [List.getElem?_map, h]; rfl)]
      simp
theorem all_take {l : List Tok} {i : Nat} {t : Tok} (h : l[i]? = some t) (ha : (l.take i).all vP = true) (hv : vP t = true) : (l.take (i + 1)).all vP = true := by
  rw [List.take_add_one, h, List.all_append, ha]
  simp [hv]
theorem all_not {l : List Tok} {i : Nat} {t : Tok} (h : l[i]? = some t) (hv : vP t = false) : wrV l = .tuple #[.string ⟨#[]⟩, .int .i64 2] := by
  have : ¬ l.all vP = true := fun e => by
    have := List.all_eq_true.1 e t (List.mem_of_getElem? h)
    rw [hv] at this; cases this
  unfold wrV; rw [if_neg this]
theorem res14 (tm : Array Value) (a b : Value) (w : World) (h4 : tm[2]?.getD undef = a) (h5 : tm[3]?.getD undef = b) :
    (results Tryd.f14 tm).run Tryd.prog w = .ok (.tuple #[a, b]) w := by
  simp [results, Tryd.results14, go_sem, h4, h5]
theorem dbl_take (x : ByteArray) (k : Nat) (h : k < x.size) : dbl (x.data.toList.take (k + 1)) = dbl (x.data.toList.take k) ++ (if x[k].toNat = 39 then [39] else []) ++ (x.extract k (k + 1)).data.toList := by
  rw [List.take_add_one, List.getElem?_eq_getElem (by simpa using h), dbl_app, sub_ext, sub_byte x k h, bt_get x k h, List.append_assoc]
  congr 1
  rw [Option.toList_some, dbl_cons]
  have e : x.data.toList[k]'(by simpa using h) = x[k] := rfl
  rw [e]
  by_cases h39 : x[k] = 39
  · rw [h39]; rfl
  · have : ¬ x[k].toNat = 39 := fun h2 => h39 (UInt8.toNat_inj.1 h2)
    rw [if_neg h39, if_neg this]
    simp [dbl]
theorem tok_str (x : ByteArray) : (⟨x.data.toList.toArray⟩ : ByteArray) = x := by cases x; simp
theorem data_app (a b : ByteArray) : (a ++ b).data.toList = a.data.toList ++ b.data.toList := by rw [ByteArray.data_append, Array.toList_append]

/-- The relation at the head of Write's outer loop. -/
def RW (l : List Tok) (w : World) (x y : Value) (wr' : World) : Prop :=
  ∃ (i : Nat) (o : ByteArray), i ≤ l.length ∧ y = .int .i64 (i : Int) ∧ x = .string o ∧ o.data.toList = wrs (l.take i) ∧ o.size ≤ 410 * i ∧ (l.take i).all vP = true ∧ Below w.heap.size w wr'
/-- The relation at the head of its inner loop. -/
def RI (x : ByteArray) (p : List UInt8) (n : Nat) (w1 : World) (a y : Value) (wr' : World) : Prop :=
  ∃ (k : Nat) (o : ByteArray), k ≤ x.size ∧ y = .int .i64 (k : Int) ∧ a = .string o ∧ o.data.toList = p ++ dbl (x.data.toList.take k) ∧ o.size ≤ n + 2 * k ∧ wr' = w1

set_option maxRecDepth 100000 in
set_option maxHeartbeats 4000000 in
theorem rWrite_c (v : Value) (l : List Tok) (w : World) (h : RT w v l) (hlen : l.length ≤ 100) (hsz : ∀ t ∈ l, t.2.length ≤ 200) :
    Calls Tryd.prog 14 #[v] w fun e w' => e = .returned (wrV l) ∧ Below w.heap.size w w' := by
  obtain ⟨A, cap, rfl, hm, hc⟩ := h
  have Hsz := Lib.hid hsz; have Hc := Lib.hid hc
  clear hsz hc
  have h1s : (⟨#[32]⟩ : ByteArray).size = 1 := rfl
  have h2s : (⟨#[39]⟩ : ByteArray).size = 1 := rfl
  go_enter Tryd.func14, Tryd.ntmps14
  go_wp2_with fail
  go_loopw [4, 5] (fun x y wr' => RW l w x y wr') (fun _ y _ => l.length - (intOf y).toNat)
  case atStart => exact ⟨0, ⟨#[]⟩, by omega, rfl, rfl, rfl, Nat.zero_le _, rfl, Below.refl _ _⟩
  case round =>
    obtain ⟨i, o, hi, rfl, rfl, ho, hos, hall, hB⟩ := hrel
    by_cases hlt : i < l.length
    · obtain ⟨b1, o1, rfl, hr1⟩ := Hc.out (by omega)
      obtain ⟨ka, x, hga⟩ : ∃ (ka x : ByteArray), l[i]? = some (ka, x.data.toList) := ⟨(l[i]'hlt).1, ⟨(l[i]'hlt).2.toArray⟩, List.getElem?_eq_getElem hlt⟩
      have ca0 := ck hB (hr1 _ _ (tcell_at hga).1)
      have ca1 := ck hB (hr1 _ _ (tcell_at hga).2)
      rw [← Nat.add_assoc, tok_str] at ca1
      have hxs : x.size ≤ 200 := by
        have := Hsz.out _ (List.mem_of_getElem? hga)
        simpa using this
      have hstep := wrs_succ hga
      clear hr1
      rcases hv : vP (ka, x.data.toList) with _ | _
      · have Hfin := Lib.hid (all_not hga hv)
        have Hv := Lib.hid hv
        clear hga ho hall hstep hv
        go_wp2_with fail
        refine (rValid_c ka x (by omega) _).mono ?_
        rw [Hv.out]
        rintro e w1 ⟨rfl, hb⟩
        have hB := bt_ hB hb
        clear hb
        go_wp2
        rw [Hfin.out]
        exact bodyPost_ret (v := .tuple #[.string ⟨#[]⟩, .int .i64 2]) (res14 _ _ _ _ rfl rfl) rfl ⟨rfl, hB⟩
      · have Hall := Lib.hid (all_take hga hall hv)
        have Hv := Lib.hid hv
        have Ho := Lib.hid ho
        clear hga hall hv ho
        by_cases hi0 : i = 0
        · by_cases hk : ka = kText
          · subst hi0
            simp only [Nat.zero_mul, Nat.add_zero] at ca0 ca1
            subst hk
            have Hst := Lib.hid (show o.data.toList ++ [39] ++ dbl x.data.toList ++ [39] = wrs (l.take (0 + 1)) by rw [hstep, wr_text, if_pos rfl, show o.data.toList = [] from Ho.out]; simp)
            clear hstep
            go_wp2_with fail
            refine (rValid_c _ x (by omega) _).mono ?_
            rw [Hv.out]
            rintro e w1 ⟨rfl, hb⟩
            have ca0 := ck hb ca0
            have ca1 := ck hb ca1
            have hB := bt_ hB hb
            clear hb
            go_wp2_with fail
            obtain ⟨p, hp⟩ : ∃ p : ByteArray, p = o ++ ⟨#[39]⟩ := ⟨_, rfl⟩
            have hps : p.size = o.size + 1 := by rw [hp, ByteArray.size_append, h2s]
            have Hst2 := Lib.hid (show p.data.toList ++ dbl x.data.toList ++ [39] = wrs (l.take (0 + 1)) by rw [← Hst.out, hp, data_app])
            rw [← hp]
            clear hp
            go_loopw [4, 6] (fun a y wr' => RI x p.data.toList p.size w1 a y wr') (fun _ y _ => x.size - (intOf y).toNat)
            case atStart => exact ⟨0, p, by omega, rfl, rfl, by simp [dbl], by omega, rfl⟩
            case round =>
              obtain ⟨k, q, hk, rfl, rfl, hq, hqs, rfl⟩ := hrel
              by_cases hkx : k < x.size
              · have h3s : (x.extract k (k + 1)).size = 1 := by rw [ByteArray.size_extract]; omega
                have hd := dbl_take x k hkx
                by_cases h39 : x[k].toNat = 39
                · have hb1 : ((x[k].toNat : Int) == 39) = true := by simp; omega
                  rw [if_pos h39] at hd
                  have Hq := Lib.hid (show ∀ z : ByteArray, z = q ++ ⟨#[39]⟩ ++ x.extract k (k + 1) → z.data.toList = p.data.toList ++ dbl (x.data.toList.take (k + 1)) from fun z hz => by rw [hz, data_app, data_app, hq, hd]; simp)
                  clear hd h39 hq
                  go_wp2
                  go_roundw
                  case rel => exact ⟨k + 1, _, by omega, by go_num, rfl, Hq.out _ rfl, by rw [ByteArray.size_append, ByteArray.size_append, h2s]; omega, rfl⟩
                  case measure => simp [intOf]; omega
                · have hb1 : ((x[k].toNat : Int) == 39) = false := by simp; omega
                  rw [if_neg h39] at hd
                  have Hq := Lib.hid (show ∀ z : ByteArray, z = q ++ x.extract k (k + 1) → z.data.toList = p.data.toList ++ dbl (x.data.toList.take (k + 1)) from fun z hz => by rw [hz, data_app, hq, hd]; simp)
                  clear hd h39 hq
                  go_wp2
                  go_roundw
                  case rel => exact ⟨k + 1, _, by omega, by go_num, rfl, Hq.out _ rfl, by rw [ByteArray.size_append]; omega, rfl⟩
                  case measure => simp [intOf]; omega
              · obtain rfl : k = x.size := by omega
                have Hq := Lib.hid (show (q ++ (⟨#[39]⟩ : ByteArray)).data.toList = wrs (l.take (0 + 1)) by rw [data_app, hq, List.take_of_length_le (by simp), ← Hst2.out])
                clear hq
                go_wp2
                go_roundw
                case rel => exact ⟨0 + 1, _, by omega, by go_num, rfl, Hq.out, by rw [ByteArray.size_append, h2s]; omega, Hall.out, hB⟩
                case measure => simp [intOf]; omega
          · subst hi0
            simp only [Nat.zero_mul, Nat.add_zero] at ca0 ca1
            have hkn := kind_no hk
            have hkb : (ka.toList != [116, 101, 120, 116]) = true := by unfold bne; rw [hkn]; rfl
            have Hst := Lib.hid (show (o ++ x).data.toList = wrs (l.take (0 + 1)) by rw [hstep, wr_rest hk, data_app, if_pos rfl, show o.data.toList = [] from Ho.out])
            clear hstep
            go_wp2_with fail
            refine (rValid_c _ x (by omega) _).mono ?_
            rw [Hv.out]
            rintro e w1 ⟨rfl, hb⟩
            have ca0 := ck hb ca0
            have ca1 := ck hb ca1
            have hB := bt_ hB hb
            clear hb
            go_wp2
            go_roundw
            case rel => exact ⟨0 + 1, _, by omega, by go_num, rfl, Hst.out, by rw [ByteArray.size_append]; omega, Hall.out, hB⟩
            case measure => simp [intOf]; omega
        · by_cases hk : ka = kText
          · have hi1 : 0 < i := by omega
            subst hk
            have Hst := Lib.hid (show (o ++ ⟨#[32]⟩).data.toList ++ [39] ++ dbl x.data.toList ++ [39] = wrs (l.take (i + 1)) by rw [hstep, wr_text, if_neg hi0, data_app, Ho.out]; simp)
            clear hstep hi0
            go_wp2_with fail
            refine (rValid_c _ x (by omega) _).mono ?_
            rw [Hv.out]
            rintro e w1 ⟨rfl, hb⟩
            have ca0 := ck hb ca0
            have ca1 := ck hb ca1
            have hB := bt_ hB hb
            clear hb
            go_wp2_with fail
            obtain ⟨p, hp⟩ : ∃ p : ByteArray, p = (o ++ ⟨#[32]⟩) ++ ⟨#[39]⟩ := ⟨_, rfl⟩
            have hps : p.size = (o.size + 1) + 1 := by rw [hp, ByteArray.size_append, h2s, ByteArray.size_append, h1s]
            have Hst2 := Lib.hid (show p.data.toList ++ dbl x.data.toList ++ [39] = wrs (l.take (i + 1)) by rw [← Hst.out, hp, data_app])
            rw [← hp]
            clear hp
            go_loopw [4, 6] (fun a y wr' => RI x p.data.toList p.size w1 a y wr') (fun _ y _ => x.size - (intOf y).toNat)
            case atStart => exact ⟨0, p, by omega, rfl, rfl, by simp [dbl], by omega, rfl⟩
            case round =>
              obtain ⟨k, q, hk, rfl, rfl, hq, hqs, rfl⟩ := hrel
              by_cases hkx : k < x.size
              · have h3s : (x.extract k (k + 1)).size = 1 := by rw [ByteArray.size_extract]; omega
                have hd := dbl_take x k hkx
                by_cases h39 : x[k].toNat = 39
                · have hb1 : ((x[k].toNat : Int) == 39) = true := by simp; omega
                  rw [if_pos h39] at hd
                  have Hq := Lib.hid (show ∀ z : ByteArray, z = q ++ ⟨#[39]⟩ ++ x.extract k (k + 1) → z.data.toList = p.data.toList ++ dbl (x.data.toList.take (k + 1)) from fun z hz => by rw [hz, data_app, data_app, hq, hd]; simp)
                  clear hd h39 hq
                  go_wp2
                  go_roundw
                  case rel => exact ⟨k + 1, _, by omega, by go_num, rfl, Hq.out _ rfl, by rw [ByteArray.size_append, ByteArray.size_append, h2s]; omega, rfl⟩
                  case measure => simp [intOf]; omega
                · have hb1 : ((x[k].toNat : Int) == 39) = false := by simp; omega
                  rw [if_neg h39] at hd
                  have Hq := Lib.hid (show ∀ z : ByteArray, z = q ++ x.extract k (k + 1) → z.data.toList = p.data.toList ++ dbl (x.data.toList.take (k + 1)) from fun z hz => by rw [hz, data_app, hq, hd]; simp)
                  clear hd h39 hq
                  go_wp2
                  go_roundw
                  case rel => exact ⟨k + 1, _, by omega, by go_num, rfl, Hq.out _ rfl, by rw [ByteArray.size_append]; omega, rfl⟩
                  case measure => simp [intOf]; omega
              · obtain rfl : k = x.size := by omega
                have Hq := Lib.hid (show (q ++ (⟨#[39]⟩ : ByteArray)).data.toList = wrs (l.take (i + 1)) by rw [data_app, hq, List.take_of_length_le (by simp), ← Hst2.out])
                clear hq
                go_wp2
                go_roundw
                case rel => exact ⟨i + 1, _, by omega, by go_num, rfl, Hq.out, by rw [ByteArray.size_append, h2s]; omega, Hall.out, hB⟩
                case measure => simp [intOf]; omega
          · have hi1 : 0 < i := by omega
            have hkn := kind_no hk
            have hkb : (ka.toList != [116, 101, 120, 116]) = true := by unfold bne; rw [hkn]; rfl
            have Hst := Lib.hid (show ((o ++ ⟨#[32]⟩) ++ x).data.toList = wrs (l.take (i + 1)) by rw [hstep, wr_rest hk, data_app, if_neg hi0, data_app, Ho.out])
            clear hstep hi0
            go_wp2_with fail
            refine (rValid_c _ x (by omega) _).mono ?_
            rw [Hv.out]
            rintro e w1 ⟨rfl, hb⟩
            have ca0 := ck hb ca0
            have ca1 := ck hb ca1
            have hB := bt_ hB hb
            clear hb
            go_wp2
            go_roundw
            case rel => exact ⟨i + 1, _, by omega, by go_num, rfl, Hst.out, by rw [ByteArray.size_append, ByteArray.size_append, h1s]; omega, Hall.out, hB⟩
            case measure => simp [intOf]; omega
    · obtain rfl : i = l.length := by omega
      have Hfin := Lib.hid (show wrV l = .tuple #[.string o, .int .i64 0] by
        rw [List.take_length] at hall ho
        unfold wrV
        rw [if_pos hall, ← ho, tok_str])
      clear ho hall
      go_wp2
      rw [Hfin.out]
      exact bodyPost_ret (v := .tuple #[.string o, .int .i64 0]) (res14 _ _ _ _ rfl rfl) rfl ⟨rfl, hB⟩
end Go.Proofs.YtcafnpfhjiaolaaDoor

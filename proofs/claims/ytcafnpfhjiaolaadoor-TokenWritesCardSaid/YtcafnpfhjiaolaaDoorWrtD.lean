/- Contract of package token's Write: what is written of tokens. -/
import Derived.Test.YtcafnpfhjiaolaaDoorWrtC
import Derived.Laws.OwnMore
namespace Go.Proofs.YtcafnpfhjiaolaaDoor
open Go.RowKit

/-- The row of texts when the first of them are written. -/
def strV (t : Tok) : Value := .string ⟨(wr t).toArray⟩
def rowV (l : List Tok) (i : Nat) : List Value := (l.take i).map strV ++ List.replicate (l.length - i) (.string ⟨#[]⟩)
theorem row_set {l : List Tok} {i : Nat} {t : Tok} (h : l[i]? = some t) : (rowV l i).set i (strV t) = rowV l (i + 1) := by
  have hi : i < l.length := (List.getElem?_eq_some_iff.1 h).1
  have h1 : ((l.take i).map strV).length = i := by simp; omega
  unfold rowV
  rw [List.take_add_one, h]
  obtain ⟨d, hd⟩ : ∃ d, l.length - i = d + 1 := ⟨l.length - i - 1, by omega⟩
  rw [hd, show l.length - (i + 1) = d by omega, List.replicate_succ, List.set_append_right _ _ (by omega), h1, Nat.sub_self]
  simp
def bsV (l : List Tok) : List ByteArray := l.map fun t => ⟨(wr t).toArray⟩
theorem bs_len (l : List Tok) : (bsV l).length = l.length := List.length_map _
theorem bs_join (l : List Tok) : Lib.join ((bsV l).map (·.data.toList)) (⟨#[32]⟩ : ByteArray).data.toList = wrs l := by
  unfold wrs bsV; rw [List.map_map]; rfl
theorem row_at {l : List Tok} {j : Nat} {x : ByteArray} (h : (bsV l)[j]? = some x) : (rowV l l.length)[j]? = some (.string x) := by
  unfold bsV at h
  rw [List.getElem?_map] at h
  unfold rowV
  rw [List.take_length, Nat.sub_self, List.replicate_zero, List.append_nil, List.getElem?_map]
  rcases h2 : l[j]? with _ | t
  · rw [h2] at h; cases h
  · rw [h2] at h; simp at h; simp [strV, h]
theorem row_get {l : List Tok} {i : Nat} (h : i < l.length) : (rowV l i)[i]? = some (.string ⟨#[]⟩) := by
  have h1 : ((l.take i).map strV).length = i := by simp; omega
  unfold rowV
  rw [List.getElem?_append_right (by omega), h1, Nat.sub_self, List.getElem?_replicate]
  simp; omega
theorem wrs_len (l : List Tok) (hsz : ∀ t ∈ l, t.2.length ≤ 200) : ∀ i, i ≤ l.length → (wrs (l.take i)).length ≤ 410 * i := by
  intro i
  induction i with
  | zero => intro _; exact Nat.le_refl _
  | succ i ih =>
    intro hi
    have h := List.getElem?_eq_getElem (show i < l.length by omega)
    have h1 := wr_len (l[i]'(by omega))
    have h2 := hsz _ (List.getElem_mem (show i < l.length by omega))
    have h3 := ih (by omega)
    rw [wrs_succ h, List.length_append]
    split
    · rw [List.length_nil]; omega
    · rw [List.length_append, List.length_singleton]; omega
theorem res13 (tm : Array Value) (a b : Value) (w : World) (h4 : tm[2]?.getD undef = a) (h5 : tm[3]?.getD undef = b) :
    (results Tryd.f13 tm).run Tryd.prog w = .ok (.tuple #[a, b]) w := by
  simp [results, Tryd.results13, go_sem, h4, h5]
theorem info9 : (Tryd.prog.info? 9).map (fun i => (i.zero, i.size, i.bytes)) = some (some (.string ⟨#[]⟩), 1, 16) := by kernel_rfl
theorem make40 (n : Nat) (hn : n ≤ 100) (w : World) : (Instr.makeSlice 40 (.int .i64 (n : Int)) (.int .i64 (n : Int))).run Tryd.prog w = .ok (.slice (some ⟨w.heap.size, 0, none⟩) n n) (w.alloc (.cells (List.replicate n (Value.string ⟨#[]⟩)).toArray 9)) := by
  obtain ⟨i0, hi, hz0, hz1, hz2⟩ := info_parts info9
  have h := run_makeSlice (P := Tryd.prog) w 40 9 i0 _ Tryd.underlying40 hi hz0 .i64 .i64 (n : Int) (n : Int) (by omega) (by omega) (by rw [hz1]; omega) (by rw [hz2]; omega) (by omega)
  rw [h]
  have e : madeCells (Value.string ⟨#[]⟩).cells ((n : Int).toNat * i0.size) = (List.replicate n (Value.string ⟨#[]⟩)).toArray := by
    rw [hz1, Nat.mul_one, Int.toNat_natCast]
    rw [← toList_madeCells_one]
    rfl
  rw [e, Int.toNat_natCast]

/-- The relation at the head of Write's loop. -/
def WrRel (l : List Tok) (w : World) (x : Value) (wr' : World) : Prop :=
  ∃ i : Nat, i ≤ l.length ∧ x = .int .i64 (i : Int) ∧ (l.take i).all vP = true ∧ Has wr' w.heap.size (rowV l i) ∧ Below w.heap.size w wr' ∧ w.heap.size < wr'.heap.size

set_option maxRecDepth 100000 in
set_option maxHeartbeats 4000000 in
theorem Write_c (v : Value) (l : List Tok) (w : World) (ht : TB w) (hm : MX w) (h : RT w v l) (hlen : l.length ≤ 100) (hsz : ∀ t ∈ l, t.2.length ≤ 200) :
    Calls Tryd.prog 13 #[v] w fun e w' => e = .returned (wrV l) ∧ Below w.heap.size w w' := by
  obtain ⟨A, cap, rfl, _, hc⟩ := h
  have Hsz := Lib.hid hsz; have Hc := Lib.hid hc; have Ht := Lib.hid ht; have Hm := Lib.hid hm
  clear hsz hc ht hm
  have hmk := make40 l.length hlen
  go_enter Tryd.func13, Tryd.ntmps13
  go_wp2_with fail
  go_loopw [12] (fun x wr' => WrRel l w x wr') (fun x _ => l.length - (intOf x).toNat)
  case atStart =>
    refine ⟨0, by omega, rfl, rfl, ?_, (Below.refl _ _).alloc (Nat.le_refl _) _, by simp⟩
    have := Has.new w (List.replicate l.length (Value.string ⟨#[]⟩)) 9
    simpa [rowV] using this
  case round =>
    obtain ⟨i, hi, rfl, hall, hR, hB, hlt2⟩ := hrel
    clear hmk
    by_cases hlt : i < l.length
    · obtain ⟨b1, o1, rfl, hr1⟩ := Hc.out (by omega)
      obtain ⟨ka, x, hga⟩ : ∃ (ka x : ByteArray), l[i]? = some (ka, x.data.toList) := ⟨(l[i]'hlt).1, ⟨(l[i]'hlt).2.toArray⟩, List.getElem?_eq_getElem hlt⟩
      have ca0 := ck hB (hr1 _ _ (tcell_at hga).1)
      have ca1 := ck hB (hr1 _ _ (tcell_at hga).2)
      rw [← Nat.add_assoc, tok_str] at ca1
      have hxs : x.size ≤ 200 := by
        have := Hsz.out _ (List.mem_of_getElem? hga)
        simpa using this
      have hgap := Has.new wr [.string ka, .string x] 30
      have hRa := hR.alloc (.cells #[.string ka, .string x] 30)
      have hBa := hB.alloc hB.size (.cells #[.string ka, .string x] 30)
      have HTa := Lib.hid (Ht.out.keep hBa); have HMa := Lib.hid (Hm.out.keep hBa)
      clear hr1 hR
      rcases hv : vP (ka, x.data.toList) with _ | _
      · have Hfin := Lib.hid (all_not hga hv)
        have Hv := Lib.hid hv
        clear hga hall hv
        go_wp2_with fail
        refine (Valid_c ka x (by omega) _ HTa.out HMa.out).mono ?_
        rw [Hv.out]
        rintro e w1 ⟨rfl, hb⟩
        have hB := bt_ hBa hb
        clear hb hgap hRa
        go_wp2
        rw [Hfin.out]
        exact bodyPost_ret (v := .tuple #[.string ⟨#[]⟩, .int .i64 2]) (res13 _ _ _ _ rfl rfl) rfl ⟨rfl, hB⟩
      · have Hall := Lib.hid (all_take hga hall hv)
        have Hrow := Lib.hid (row_set hga)
        have Hv := Lib.hid hv
        clear hga hall hv
        go_wp2_with fail
        refine (Valid_c ka x (by omega) _ HTa.out HMa.out).mono ?_
        rw [Hv.out]
        rintro e w1 ⟨rfl, hb⟩
        have HM1 := Lib.hid (HMa.out.keep hb)
        have hR := hRa.keep hb
        have hg := hgap.keep hb
        have hB := bt_ hBa hb
        obtain ⟨hr0, hr1⟩ := hg.c2
        clear hgap hRa hBa hb
        go_wp2_with fail
        refine (written_c ka x (by omega) _ HM1.out).mono ?_
        rintro e w2 ⟨rfl, hb⟩
        have hR := hR.keep hb
        have hB := bt_ hB hb
        obtain ⟨hc1, hf1⟩ := hR i _ (row_get hlt)
        have hs2 := hB.size
        clear hr0 hr1 hg hb
        go_wp2
        go_roundw
        case rel =>
          refine ⟨i + 1, by omega, by go_num, Hall.out, ?_, hB.st (Nat.le_refl _), ?_⟩
          · rw [← Hrow.out]
            exact hR.set
          · have := World.block_lt_of_cell? _ _ hc1
            simpa using this
        case measure => simp [intOf]; omega
    · obtain rfl : i = l.length := by omega
      rw [List.take_length] at hall
      have hwl := wrs_len l Hsz.out l.length (Nat.le_refl _)
      rw [List.take_length] at hwl
      have hj := Tryd.strings_Join w.heap.size 0 l.length (bsV l) ⟨#[32]⟩ wr (fun j x hx => by rw [Nat.zero_add]; exact (hR j _ (row_at hx)).1) hlt2 (by rw [bs_len]; omega) (by rw [bs_len]; exact Nat.le_refl _) (by rw [bs_join]; omega)
      rw [bs_join, bs_len] at hj
      have Hj := Lib.hid hj
      have Hfin := Lib.hid (show wrV l = .tuple #[.string ⟨(wrs l).toArray⟩, .int .i64 0] by unfold wrV; rw [if_pos hall])
      clear hj hall hwl hR
      go_wp2_with fail
      refine Hj.out.mono ?_
      rintro e w1 ⟨rfl, hb⟩
      have hB := bt_ hB hb
      go_wp2
      rw [Hfin.out]
      exact bodyPost_ret (v := .tuple #[.string ⟨(wrs l).toArray⟩, .int .i64 0]) (res13 _ _ _ _ rfl rfl) rfl ⟨rfl, hB⟩
end Go.Proofs.YtcafnpfhjiaolaaDoor

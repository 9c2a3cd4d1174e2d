/- Contract of joined: what a line adds to the one that goes on in it. -/
import Derived.Test.YtdandmbgdndnjaaGreatDoorNewA
import Derived.Test.YtdandmbgdndnjaaGreatDoorShelfV
namespace Go.Proofs.YtdandmbgdndnjaaGreatDoor
open Go.RowKit

def jnT (L : List UInt8) (o : Nat) : List UInt8 :=
  if Lib.hasPrefix (Lib.trimLeftB L 32) [38] = true then Lib.trimPrefix (Lib.trimLeftB L 32) [38] else if o = 0 then 32 :: Lib.trimPrefix (Lib.trimLeftB L 32) [38] else Lib.trimPrefix (Lib.trimLeftB L 32) [38]
def jnW (l at_ : Nat) (L : List UInt8) (o : Nat) : Nat := if Lib.hasPrefix (Lib.trimLeftB L 32) [38] = true then l else if o = 0 then l else wrN l at_
theorem trimPrefix_len (L p : List UInt8) : (Lib.trimPrefix L p).length ≤ L.length := by
  unfold Lib.trimPrefix
  split
  · rw [List.length_drop]; omega
  · exact Nat.le_refl _
theorem trimLeftB_len (L : List UInt8) (c : UInt8) : (Lib.trimLeftB L c).length ≤ L.length := (List.dropWhile_sublist _).length_le
theorem jnT_len (L : List UInt8) (o : Nat) : (jnT L o).length ≤ L.length + 1 := by
  have h1 := trimPrefix_len (Lib.trimLeftB L 32) [38]
  have h2 := trimLeftB_len L 32
  unfold jnT
  split
  · omega
  · split
    · rw [List.length_cons]; omega
    · omega

set_option maxRecDepth 100000 in
set_option maxHeartbeats 2000000 in
theorem joined_c (rb : Nat) (x y : Value) (l at_ o : Nat) (s : ByteArray) (hs : s.size ≤ 1000000) (w : World) (h : Has w rb [x, y, .int .i64 (l : Int)]) (hl : l ≤ 1000000) :
    Calls Tryz.prog 64 #[.pointer (some ⟨rb, 0, none⟩), .string s, .int .u8 (o : Int), .int .i64 (at_ : Int)] w fun e w' =>
      e = .returned (.string ⟨(jnT s.data.toList o).toArray⟩) ∧ Has w' rb [x, y, .int .i64 (jnW l at_ s.data.toList o : Int)] ∧ KB w w' (fun k => k = rb) := by
  obtain ⟨u, hu⟩ : ∃ u : ByteArray, u = ⟨(Lib.trimLeftB s.data.toList 32).toArray⟩ := ⟨_, rfl⟩
  have hud : u.data.toList = Lib.trimLeftB s.data.toList 32 := by rw [hu]
  obtain ⟨r, hr⟩ : ∃ r : ByteArray, r = ⟨(Lib.trimPrefix u.data.toList [38]).toArray⟩ := ⟨_, rfl⟩
  have hrd : r.data.toList = Lib.trimPrefix (Lib.trimLeftB s.data.toList 32) [38] := by rw [hr, hud]
  have hrs : r.size ≤ 1000000 := by
    have h1 := trimPrefix_len (Lib.trimLeftB s.data.toList 32) [38]
    have h2 := trimLeftB_len s.data.toList 32
    rw [← hrd, data_len] at h1
    rw [data_len] at h2
    omega
  obtain ⟨p, hp⟩ : ∃ p : Bool, p = Lib.hasPrefix (Lib.trimLeftB s.data.toList 32) [38] := ⟨_, rfl⟩
  have HC := Lib.hid (fun wx => show Calls Tryz.prog 88 #[.string u, .string ⟨#[38]⟩] wx (fun e w' => e = .returned (.tuple #[.string r, .bool p]) ∧ wx = w') by
    rw [hr, hp, ← hud]
    exact (Tryz.strings_CutPrefix u ⟨#[38]⟩ wx).mono fun e w' ⟨h1, h2⟩ => ⟨h1, h2.symm⟩)
  have HT := Lib.hid (show Calls Tryz.prog 30 #[.string s, .string ⟨#[32]⟩] w (fun e w' => e = .returned (.string u) ∧ w = w') by
    rw [hu]
    exact (Tryz.strings_TrimLeft_one s 32 (by decide) w).mono fun e w' ⟨h1, h2⟩ => ⟨h1, h2.symm⟩)
  have H := Lib.hid h
  have Hr := Lib.hid hrd
  have Hp := Lib.hid hp
  clear hu hud hr hrd hp h
  cases p
  · by_cases h0 : o = 0
    · have e1 : jnT s.data.toList o = 32 :: r.data.toList := by unfold jnT; rw [← Hp.out, if_neg (by decide), if_pos h0, Hr.out]
      have e2 : jnW l at_ s.data.toList o = l := by unfold jnW; rw [← Hp.out, if_neg (by decide), if_pos h0]
      rw [e1, e2]
      have hsum : 1 + r.size ≤ 2000000 := by omega
      have f0 : ((o : Int) == 0) = true := by simp; omega
      have HE := Lib.hid (show (⟨#[32]⟩ ++ r : ByteArray) = ⟨(32 :: r.data.toList).toArray⟩ by
        apply Go.WideShapes.bytes_inj
        rw [ByteArray.data_append, Array.toList_append]; rfl)
      clear e1 e2 h0
      go_enter Tryz.func64, Tryz.ntmps64
      go_wp2_with fail
      refine HT.out.mono ?_
      rintro e w1 ⟨rfl, rfl⟩
      go_wp2_with fail
      refine (HC.out _).mono ?_
      rintro e w1 ⟨rfl, rfl⟩
      go_wp2
      go_ret
      exact ⟨congrArg (fun b => Ending.returned (Value.string b)) HE.out, H.out, KB.refl _ _⟩
    · have e1 : jnT s.data.toList o = r.data.toList := by unfold jnT; rw [← Hp.out, if_neg (by decide), if_neg h0, Hr.out]
      have e2 : jnW l at_ s.data.toList o = wrN l at_ := by unfold jnW; rw [← Hp.out, if_neg (by decide), if_neg h0]
      rw [e1, e2]
      have f0 : ((o : Int) == 0) = false := by simp; omega
      clear e1 e2 h0
      go_enter Tryz.func64, Tryz.ntmps64
      go_wp2_with fail
      refine HT.out.mono ?_
      rintro e w1 ⟨rfl, rfl⟩
      go_wp2_with fail
      refine (HC.out _).mono ?_
      rintro e w1 ⟨rfl, rfl⟩
      go_wp2_with fail
      refine (wrong_c rb x y l at_ w H.out hl).mono ?_
      rintro e w2 ⟨rfl, hh, hk⟩
      go_wp2
      go_ret
      exact ⟨rfl, hh, hk⟩
  · have e1 : jnT s.data.toList o = r.data.toList := by unfold jnT; rw [← Hp.out, if_pos rfl, Hr.out]
    have e2 : jnW l at_ s.data.toList o = l := by unfold jnW; rw [← Hp.out, if_pos rfl]
    rw [e1, e2]
    clear e1 e2
    go_enter Tryz.func64, Tryz.ntmps64
    go_wp2_with fail
    refine HT.out.mono ?_
    rintro e w1 ⟨rfl, rfl⟩
    go_wp2_with fail
    refine (HC.out _).mono ?_
    rintro e w1 ⟨rfl, rfl⟩
    go_wp2
    go_ret
    exact ⟨rfl, H.out, KB.refl _ _⟩
end Go.Proofs.YtdandmbgdndnjaaGreatDoor

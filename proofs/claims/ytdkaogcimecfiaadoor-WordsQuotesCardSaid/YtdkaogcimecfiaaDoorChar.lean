/- The contract of words.readChar. Conditions: the string is not empty, has a length that Go's strings can have, and the table words.escapes holds what the program's text lays. -/
import Derived.Test.YtdkaogcimecfiaaDoorHex
namespace Go.Proofs.YtdkaogcimecfiaaDoor
open Go.RowKit

def rcV (o : Option (UInt8 × Nat)) : Value := match o with
  | some (c, n) => .tuple #[.int .u8 (c.toNat : Int), .int .i64 (n : Int)]
  | none => .tuple #[.int .u8 0, .int .i64 0]

theorem bs_one (s : ByteArray) (h : 0 < s.size) : bs s = s[0] :: (bs s).drop 1 := by
  have := bs_drop s 0 h; simpa using this
theorem bs_two (s : ByteArray) (h : 1 < s.size) : bs s = s[0] :: s[1] :: (bs s).drop 2 := by
  rw [← bs_drop s 1 h]; exact bs_one s (by omega)
theorem bs_four (s : ByteArray) (h : 3 < s.size) : bs s = s[0] :: s[1] :: s[2] :: s[3] :: (bs s).drop 4 := by
  rw [← bs_drop s 3 h, ← bs_drop s 2 (by omega)]; exact bs_two s (by omega)
theorem plain_eq (c : Nat) : plainB (c : Int) = M.plainN c := by
  unfold plainB M.plainN
  rw [Bool.eq_iff_iff]; simp; omega
theorem rc_plain (s : ByteArray) (h : 0 < s.size) (hp : plainB (s[0].toNat : Int) = true) : M.rc (bs s) = some (s[0], 1) := by
  rw [bs_one s h, M.rc_cons, if_pos (by rw [← plain_eq]; exact hp)]
theorem rc_not92 (s : ByteArray) (h : 0 < s.size) (hp : plainB (s[0].toNat : Int) = false) (h9 : ((s[0].toNat : Int) != 92) = true) : M.rc (bs s) = none := by
  rw [bs_one s h, M.rc_cons, if_neg (by rw [← plain_eq, hp]; simp), if_pos]
  intro e; rw [e] at h9; simp at h9
theorem is92 {c : UInt8} {n : Nat} (h : ((c.toNat : Int) != n) = false) : c = UInt8.ofNat n := by
  have : (c.toNat : Int) = n := by simpa using h
  rw [← UInt8.ofNat_toNat (x := c)]; congr 1; omega
theorem rc_short (s : ByteArray) (h : s.size = 1) (hp : plainB (s[0].toNat : Int) = false) : M.rc (bs s) = none := by
  rw [bs_one s (by omega), bs_drop_end s 1 (by omega), M.rc_cons, if_neg (by rw [← plain_eq, hp]; simp)]
  split <;> rfl
theorem rc_char (s : ByteArray) (h : 1 < s.size) (hp : plainB (s[0].toNat : Int) = false) (h9 : ((s[0].toNat : Int) != 92) = false) (x : Nat) (hx : M.charN s[1].toNat = some x) : M.rc (bs s) = some (M.u x, 2) := by
  rw [bs_two s h, M.rc_cons, if_neg (by rw [← plain_eq, hp]; simp), if_neg (by rw [is92 (n := 92) h9]; simp)]
  simp only [hx]
theorem rc_120 (s : ByteArray) (h : 1 < s.size) (hp : plainB (s[0].toNat : Int) = false) (h9 : ((s[0].toNat : Int) != 92) = false) (hx : M.charN s[1].toNat = none) (h1 : ((s[1].toNat : Int) != 120) = true) : M.rc (bs s) = none := by
  rw [bs_two s h, M.rc_cons, if_neg (by rw [← plain_eq, hp]; simp), if_neg (by rw [is92 (n := 92) h9]; simp)]
  simp only [hx]
  rw [if_pos]
  intro e; rw [e] at h1; simp at h1
theorem rc_less (s : ByteArray) (h : 1 < s.size) (h4 : s.size < 4) (hp : plainB (s[0].toNat : Int) = false) (h9 : ((s[0].toNat : Int) != 92) = false) (hx : M.charN s[1].toNat = none) : M.rc (bs s) = none := by
  rw [bs_two s h, M.rc_cons, if_neg (by rw [← plain_eq, hp]; simp), if_neg (by rw [is92 (n := 92) h9]; simp)]
  simp only [hx]
  split
  · rfl
  · have hl : ((bs s).drop 2).length < 2 := by rw [List.length_drop, bs_len]; omega
    match (bs s).drop 2, hl with
    | [], _ => rfl
    | [_], _ => rfl
theorem rc_hex (s : ByteArray) (h4 : 3 < s.size) (hp : plainB (s[0].toNat : Int) = false) (h9 : ((s[0].toNat : Int) != 92) = false) (hx : M.charN s[1].toNat = none) (h1 : ((s[1].toNat : Int) != 120) = false) :
    M.rc (bs s) = (M.hexChar s[2].toNat s[3].toNat).map fun x => (M.u x, 4) := by
  rw [bs_four s h4, M.rc_cons, if_neg (by rw [← plain_eq, hp]; simp), if_neg (by rw [is92 (n := 92) h9]; simp)]
  simp only [hx]
  rw [if_neg (by rw [is92 (n := 120) h1]; simp)]
theorem char_lt {c : UInt8} {x : Nat} (h : M.charN c.toNat = some x) : x < 256 := by
  unfold M.charN at h
  repeat' (split at h)
  all_goals (simp at h; try omega)
theorem hexChar_lt {a b x : Nat} (h : M.hexChar a b = some x) : x < 256 := by
  unfold M.hexChar at h
  cases ha : M.unhexN a with
  | none => rw [ha] at h; simp at h
  | some p =>
    cases hb : M.unhexN b with
    | none => rw [ha, hb] at h; simp at h
    | some q =>
      rw [ha, hb] at h
      simp only at h
      split at h
      · simp at h
      · simp only [Option.some.injEq] at h
        have hp : p < 16 := by unfold M.unhexN at ha; split at ha <;> (try split at ha) <;> simp at ha <;> omega
        have hq : q < 16 := by unfold M.unhexN at hb; split at hb <;> (try split at hb) <;> simp at hb <;> omega
        omega
theorem u_toNat {x : Nat} (h : x < 256) : (M.u x).toNat = x := by unfold M.u; rw [UInt8.toNat_ofNat']; omega

set_option maxHeartbeats 1000000 in
theorem readChar_any (s : ByteArray) (w : World) (hs : s.size ≤ maxLen) (h0 : 0 < s.size) (T : Tab w) :
    Calls Tryd.prog 60 #[.string s] w fun e w' => e = .returned (rcV (M.rc (bs s))) ∧ ∃ n, w' = w.drewN n := by
  unfold maxLen at hs
  by_cases hp : plainB (s[0].toNat : Int) = true
  · have H := Lib.hid (rc_plain s h0 hp)
    go_enter Tryd.func60, Tryd.ntmps60
    go_wp2_with (go_at_call 66; refine (isPlain_any _ _).mono ?_; rintro e w' ⟨rfl, rfl⟩)
    go_ret2
    exact ⟨by rw [H.out]; rfl, 0, rfl⟩
  have hp' : plainB (s[0].toNat : Int) = false := by simpa using hp
  clear hp
  cases h9 : ((s[0].toNat : Int) != 92) with
  | true =>
    have H := Lib.hid (rc_not92 s h0 hp' h9)
    go_enter Tryd.func60, Tryd.ntmps60
    go_wp2_with (go_at_call 66; refine (isPlain_any _ _).mono ?_; rintro e w' ⟨rfl, rfl⟩)
    go_ret2
    exact ⟨by rw [H.out]; rfl, 0, rfl⟩
  | false =>
  by_cases h2 : s.size < 2
  · have H := Lib.hid (rc_short s (by omega) hp')
    go_enter Tryd.func60, Tryd.ntmps60
    go_wp2_with (go_at_call 66; refine (isPlain_any _ _).mono ?_; rintro e w' ⟨rfl, rfl⟩)
    go_ret2
    exact ⟨by rw [H.out]; rfl, 0, rfl⟩
  have g2 : 1 < s.size := by omega
  cases hx : M.charN s[1].toNat with
  | some x =>
    have H := Lib.hid (rc_char s g2 hp' h9 x hx)
    have HU := Lib.hid (u_toNat (char_lt hx))
    have HX := Lib.hid hx
    clear hx
    go_enter Tryd.func60, Tryd.ntmps60
    go_wp2_with (go_at_call 66; refine (isPlain_any _ _).mono ?_; rintro e w' ⟨rfl, rfl⟩)
    refine (charOf_any _ _ T).mono ?_
    rintro e w' ⟨rfl, rfl⟩
    simp only [HX.out, pairOf]
    go_wp2_with fail
    go_ret2
    exact ⟨by rw [H.out, rcV, HU.out]; rfl, 0, rfl⟩
  | none =>
  have HX := Lib.hid hx
  cases h1 : ((s[1].toNat : Int) != 120) with
  | true =>
    have H := Lib.hid (rc_120 s g2 hp' h9 hx h1)
    clear hx
    go_enter Tryd.func60, Tryd.ntmps60
    go_wp2_with (go_at_call 66; refine (isPlain_any _ _).mono ?_; rintro e w' ⟨rfl, rfl⟩)
    refine (charOf_any _ _ T).mono ?_
    rintro e w' ⟨rfl, rfl⟩
    simp only [HX.out, pairOf]
    go_wp2_with fail
    go_ret2
    exact ⟨by rw [H.out]; rfl, 0, rfl⟩
  | false =>
  by_cases h4 : s.size < 4
  · have H := Lib.hid (rc_less s g2 h4 hp' h9 hx)
    clear hx
    go_enter Tryd.func60, Tryd.ntmps60
    go_wp2_with (go_at_call 66; refine (isPlain_any _ _).mono ?_; rintro e w' ⟨rfl, rfl⟩)
    refine (charOf_any _ _ T).mono ?_
    rintro e w' ⟨rfl, rfl⟩
    simp only [HX.out, pairOf]
    go_wp2_with fail
    go_ret2
    exact ⟨by rw [H.out]; rfl, 0, rfl⟩
  have g4 : 3 < s.size := by omega
  have H := Lib.hid (rc_hex s g4 hp' h9 hx h1)
  clear hx
  have i2 : (2 : Int) < (s.size : Int) := by omega
  have i3 : (3 : Int) < (s.size : Int) := by omega
  cases hz : M.hexChar s[2].toNat s[3].toNat with
  | some x =>
    have hc : ∀ W, Tab W → Calls Tryd.prog 88 #[.int .u8 (s[2].toNat : Int), .int .u8 (s[3].toNat : Int)] W fun e w' => e = .returned (.tuple #[.int .u8 (x : Int), .bool true]) ∧ w' = W :=
      fun W TW => (hexChar_any _ _ _ TW).mono fun _ _ ⟨he, hw⟩ => ⟨by rw [he, hz]; rfl, hw.symm⟩
    have HC := Lib.hid hc
    have HU := Lib.hid (u_toNat (hexChar_lt hz))
    have HZ := Lib.hid hz
    clear hz hc
    go_enter Tryd.func60, Tryd.ntmps60
    go_wp2_with (go_at_call 66; refine (isPlain_any _ _).mono ?_; rintro e w' ⟨rfl, rfl⟩)
    refine (charOf_any _ _ T).mono ?_
    rintro e w' ⟨rfl, rfl⟩
    simp only [HX.out, pairOf]
    go_wp2_with fail
    go_quiet ((go_at_call 88; exact Calls.quiet_of_same (HC.out _ (T.drewN _))))
    go_wp2_with fail
    go_ret2
    exact ⟨by rw [H.out, HZ.out, Option.map_some, rcV, HU.out]; rfl, _, rfl⟩
  | none =>
    have hc : ∀ W, Tab W → Calls Tryd.prog 88 #[.int .u8 (s[2].toNat : Int), .int .u8 (s[3].toNat : Int)] W fun e w' => e = .returned (.tuple #[.int .u8 0, .bool false]) ∧ w' = W :=
      fun W TW => (hexChar_any _ _ _ TW).mono fun _ _ ⟨he, hw⟩ => ⟨by rw [he, hz]; rfl, hw.symm⟩
    have HC := Lib.hid hc
    have HZ := Lib.hid hz
    clear hz hc
    go_enter Tryd.func60, Tryd.ntmps60
    go_wp2_with (go_at_call 66; refine (isPlain_any _ _).mono ?_; rintro e w' ⟨rfl, rfl⟩)
    refine (charOf_any _ _ T).mono ?_
    rintro e w' ⟨rfl, rfl⟩
    simp only [HX.out, pairOf]
    go_wp2_with fail
    go_quiet ((go_at_call 88; exact Calls.quiet_of_same (HC.out _ (T.drewN _))))
    go_wp2_with fail
    go_ret2
    exact ⟨by rw [H.out, HZ.out]; rfl, _, rfl⟩
end Go.Proofs.YtdkaogcimecfiaaDoor

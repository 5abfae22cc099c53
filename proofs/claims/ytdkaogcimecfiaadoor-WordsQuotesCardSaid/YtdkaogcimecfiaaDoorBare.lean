/- The contracts of words.bareEnd, strings.Clone, words.readBare and words.Unquote. Conditions: strings shorter than 10^9 bytes, places that are not negative, and the table words.escapes holds what the program's text lays. -/
import Derived.Test.YtdkaogcimecfiaaDoorQuoted
namespace Go.Proofs.YtdkaogcimecfiaaDoor
open Go.RowKit

/-- The bytes that a bare field may have. -/
def bareC (c : UInt8) : Bool := plainB c.toNat && !(decide (c.toNat = 32))
/-- How many bytes of a bare field stand at the beginning. -/
def bareN (l : List UInt8) : Nat := (l.takeWhile bareC).length
theorem bareN_nil : bareN [] = 0 := rfl
theorem bareN_yes (c : UInt8) (r : List UInt8) (h : bareC c = true) : bareN (c :: r) = bareN r + 1 := by unfold bareN; rw [List.takeWhile_cons_of_pos h]; rfl
theorem bareN_no (c : UInt8) (r : List UInt8) (h : bareC c = false) : bareN (c :: r) = 0 := by unfold bareN; rw [List.takeWhile_cons_of_neg (by simp [h])]; rfl
theorem bareN_le (l : List UInt8) : bareN l ≤ l.length := (List.takeWhile_prefix bareC).length_le
theorem bareN_take (l : List UInt8) : l.take (bareN l) = l.takeWhile bareC := by
  induction l with
  | nil => rfl
  | cons c r ih =>
    by_cases h : bareC c = true
    · rw [bareN_yes c r h, List.takeWhile_cons_of_pos h, List.take_succ_cons, ih]
    · rw [bareN_no c r (by simpa using h), List.takeWhile_cons_of_neg h]; rfl
theorem bareC_no1 (c : UInt8) (h : ¬ plainB c.toNat = true) : bareC c = false := by unfold bareC; simp [h]
theorem bareC_no2 (c : UInt8) (h : ((c.toNat : Int) != 32) = false) : bareC c = false := by
  unfold bareC
  have : (c.toNat : Int) = 32 := by simpa using h
  rw [decide_eq_true (p := c.toNat = 32) (by omega)]; simp
theorem bareC_yes (c : UInt8) (h : plainB c.toNat = true) (h2 : ((c.toNat : Int) != 32) = true) : bareC c = true := by
  unfold bareC
  have : ¬ (c.toNat : Int) = 32 := by simpa using h2
  rw [h, decide_eq_false (p := c.toNat = 32) (by omega)]; rfl

set_option maxHeartbeats 1000000 in
theorem bareEnd_any (s : ByteArray) (k : Nat) (w : World) (hs : s.size ≤ 1000000000) (hk : k ≤ s.size) :
    Calls Tryd.prog 47 #[.string s, .int .i64 (k : Int)] w fun e w' => e = .returned (.int .i64 ((k + bareN ((bs s).drop k) : Nat) : Int)) ∧ w = w' := by
  obtain ⟨t, ht⟩ : ∃ t, t = k + bareN ((bs s).drop k) := ⟨_, rfl⟩
  rw [← ht]
  have HT := Lib.hid ht
  clear ht
  go_enter Tryd.func47, Tryd.ntmps47
  go_wp2_with fail
  go_loop [1] (fun i => ∃ j : Nat, j ≤ s.size ∧ i = .int .i64 j ∧ Hid (t = j + bareN ((bs s).drop j))) (fun i => s.size - (intOf i).toNat)
  case atStart => exact ⟨k, hk, rfl, HT.out⟩
  case round =>
    obtain ⟨j, hj, rfl, HJ⟩ := hrel
    by_cases hlt : j < s.size
    case neg =>
      have hfin : t = j := by rw [HJ.out, bs_drop_end s j (by omega), bareN_nil]; rfl
      have HF := Lib.hid hfin
      clear hfin
      go_wp2_with fail
      go_ret
      exact ⟨ret_int (by have := HF.out; omega), rfl⟩
    by_cases hp : plainB (s[j].toNat : Int) = true
    case neg =>
      have hfin : t = j := by rw [HJ.out, bs_drop s j hlt, bareN_no _ _ (bareC_no1 _ hp)]; rfl
      have HF := Lib.hid hfin
      clear hfin
      go_wp2_with (go_at_call 66; refine (isPlain_any _ _).mono ?_; rintro e w' ⟨rfl, rfl⟩)
      go_ret
      exact ⟨ret_int (by have := HF.out; omega), rfl⟩
    cases h2 : ((s[j].toNat : Int) != 32) with
    | false =>
      have hfin : t = j := by rw [HJ.out, bs_drop s j hlt, bareN_no _ _ (bareC_no2 _ h2)]; rfl
      have HF := Lib.hid hfin
      clear hfin
      go_wp2_with (go_at_call 66; refine (isPlain_any _ _).mono ?_; rintro e w' ⟨rfl, rfl⟩)
      go_ret
      exact ⟨ret_int (by have := HF.out; omega), rfl⟩
    | true =>
      have hnext : t = (j + 1) + bareN ((bs s).drop (j + 1)) := by rw [HJ.out, bs_drop s j hlt, bareN_yes _ _ (bareC_yes _ hp h2)]; omega
      have HF := Lib.hid hnext
      clear hnext
      go_wp2_with (go_at_call 66; refine (isPlain_any _ _).mono ?_; rintro e w' ⟨rfl, rfl⟩)
      go_round
      case rel => exact ⟨j + 1, by omega, by go_num, HF.out⟩
      case measure => simp [intOf]; omega

theorem clone_any (s : ByteArray) (w : World) (hs : s.size ≤ 1000000000) :
    Calls Tryd.prog 70 #[.string s] w fun e w' => e = .returned (.string s) ∧ Below w.heap.size w w' := by
  go_enter Tryd.func70, Tryd.ntmps70
  go_wp2_with fail
  refine (Tryd.stringslite_Clone s _ (by omega)).mono ?_
  rintro e w' ⟨rfl, hb⟩
  go_wp2_with fail
  go_ret
  exact ⟨rfl, hb⟩

/-- The bare field that begins at a place. -/
def bareAt (l : List UInt8) (k : Nat) : Option (List UInt8 × Nat) := if bareN (l.drop k) = 0 then none else some ((l.drop k).take (bareN (l.drop k)), k + bareN (l.drop k))

set_option maxHeartbeats 1000000 in
theorem readBare_any (s : ByteArray) (k : Nat) (w : World) (hs : s.size ≤ 1000000000) (hk : k ≤ s.size) :
    Calls Tryd.prog 65 #[.string s, .int .i64 (k : Int)] w fun e w' => e = .returned (rdV (bareAt (bs s) k)) ∧ Below w.heap.size w w' := by
  obtain ⟨n, hn⟩ : ∃ n, n = bareN ((bs s).drop k) := ⟨_, rfl⟩
  have hle : k + n ≤ s.size := by
    have := bareN_le ((bs s).drop k)
    rw [List.length_drop, bs_len] at this
    omega
  have HB := Lib.hid (bareEnd_any s k w hs hk)
  rw [← hn] at HB
  by_cases h0 : n = 0
  · have hfin : bareAt (bs s) k = none := by unfold bareAt; rw [if_pos (by omega)]
    have H := Lib.hid hfin
    subst h0
    clear hfin hn
    go_enter Tryd.func65, Tryd.ntmps65
    go_wp2_with fail
    refine (HB.out).mono ?_
    rintro e w' ⟨rfl, rfl⟩
    go_wp2_with fail
    go_ret3
    exact ⟨by rw [H.out]; rfl, Below.refl _ _⟩
  · have hfin : bareAt (bs s) k = some (bs (s.extract k (k + n)), k + n) := by
      unfold bareAt; rw [if_neg (by omega), ← hn, bs_extract, Nat.add_sub_cancel_left]
    have H := Lib.hid hfin
    have hz : (s.extract k (k + n)).size ≤ 1000000000 := by rw [ByteArray.size_extract]; omega
    have hne : (((k + n : Nat) : Int) == (k : Int)) = false := by rw [beq_eq_false_iff_ne]; omega
    have hcl := clone_any (s.extract k (k + n)) w hz
    have HC := Lib.hid hcl
    clear hfin hn hcl hz
    go_enter Tryd.func65, Tryd.ntmps65
    go_wp2_with fail
    refine (HB.out).mono ?_
    rintro e w' ⟨rfl, rfl⟩
    go_wp2_with fail
    refine (HC.out).mono ?_
    rintro e w' ⟨rfl, hb⟩
    go_wp2_with fail
    go_ret3
    exact ⟨by rw [H.out, rdV, mk_bs]; rfl, hb⟩

/-- What Unquote hands back. -/
def unqV (l : List UInt8) : Value := match quotedAt l 0 with
  | some (y, n) => if n = l.length then .tuple #[.string ⟨y.toArray⟩, .int .i64 0] else .tuple #[.string ⟨#[]⟩, .int .i64 6]
  | none => .tuple #[.string ⟨#[]⟩, .int .i64 6]
set_option maxHeartbeats 1000000 in
theorem unquote_any (s : ByteArray) (w : World) (hs : s.size ≤ 1000000000) (T : Tab w) (hw : 7 ≤ w.heap.size) :
    Calls Tryd.prog 18 #[.string s] w fun e w' => e = .returned (unqV (bs s)) ∧ Below w.heap.size w w' := by
  have hq := readQuoted_any s 0 w hs (by omega) T hw
  have HL := Lib.hid (bs_len s)
  cases hz : quotedAt (bs s) 0 with
  | none =>
    rw [hz] at hq
    have hfin : unqV (bs s) = .tuple #[.string ⟨#[]⟩, .int .i64 6] := by unfold unqV; rw [hz]
    have H := Lib.hid hfin
    have HQ := Lib.hid hq
    clear hfin hq hz
    go_enter Tryd.func18, Tryd.ntmps18
    go_wp2_with fail
    refine (HQ.out).mono ?_
    rintro e w' ⟨rfl, hb⟩
    simp only [rdV]
    go_wp2_with fail
    go_ret2
    exact ⟨by rw [H.out]; rfl, hb⟩
  | some yn =>
    obtain ⟨y, n⟩ := yn
    rw [hz] at hq
    by_cases hn : n = s.size
    · have hfin : unqV (bs s) = .tuple #[.string ⟨y.toArray⟩, .int .i64 0] := by unfold unqV; rw [hz]; simp only; rw [if_pos (by rw [HL.out]; exact hn)]
      have H := Lib.hid hfin
      have HQ := Lib.hid hq
      have h9 : ((n : Int) != (s.size : Int)) = false := by rw [bne_eq_false_iff_eq, hn]
      subst hn
      clear hfin hq hz
      go_enter Tryd.func18, Tryd.ntmps18
      go_wp2_with fail
      refine (HQ.out).mono ?_
      rintro e w' ⟨rfl, hb⟩
      simp only [rdV]
      go_wp2_with fail
      go_ret2
      exact ⟨by rw [H.out]; rfl, hb⟩
    · have hfin : unqV (bs s) = .tuple #[.string ⟨#[]⟩, .int .i64 6] := by unfold unqV; rw [hz]; simp only; rw [if_neg (by rw [HL.out]; exact hn)]
      have H := Lib.hid hfin
      have HQ := Lib.hid hq
      have h9 : ((n : Int) != (s.size : Int)) = true := by rw [bne_iff_ne]; omega
      clear hfin hq hz
      go_enter Tryd.func18, Tryd.ntmps18
      go_wp2_with fail
      refine (HQ.out).mono ?_
      rintro e w' ⟨rfl, hb⟩
      simp only [rdV]
      go_wp2_with fail
      go_ret2
      exact ⟨by rw [H.out]; rfl, hb⟩
end Go.Proofs.YtdkaogcimecfiaaDoor

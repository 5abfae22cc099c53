/- The contracts of words.isNatural, words.isDecimal, words.Int and words.Digits. Conditions: strings shorter than 10^9 bytes, numbers of 64 bits, and the variables that the library reads hold what their text lays. -/
import Derived.Test.YtdkaogcimecfiaaDoorName
import Derived.Test.YtdkaogcimecfiaaDoorSplit
import Derived.Test.YtdkaogcimecfiaaDoorShelf
import Derived.WalkSmall
import Derived.WideLaws
import Derived.Lib.AppendIntMem
namespace Go.Proofs.YtdkaogcimecfiaaDoor
open Go.RowKit

/-- What the package-level variables hold. -/
structure Env (w : World) : Prop where
  tab : Tab w
  pow : Lib.TabIs Tryd.prog w "internal/strconv.uint64pow10" .u64 Lib.pow10Tab
  errR : ∃ tp p, w.var? Tryd.prog "strconv.ErrRange" = some #[.iface tp p]
  errS : ∃ tp p, w.var? Tryd.prog "strconv.ErrSyntax" = some #[.iface tp p]
  size : 7 ≤ w.heap.size
theorem gPow : Tryd.prog.globalNamed "internal/strconv.uint64pow10" = some 2 := by kernel_rfl
theorem gErrR : Tryd.prog.globalNamed "strconv.ErrRange" = some 1 := by kernel_rfl
theorem gErrS : Tryd.prog.globalNamed "strconv.ErrSyntax" = some 0 := by kernel_rfl
theorem Env.below {B : Nat} {w w' : World} (E : Env w) (h : Below B w w') (hB : 7 ≤ B) : Env w' := by
  obtain ⟨tp, p, hr⟩ := E.errR
  obtain ⟨tq, q, hs⟩ := E.errS
  have := h.size
  have := E.size
  exact ⟨E.tab.below h (by omega), var?_below h gPow (by omega) E.pow, ⟨tp, p, var?_below h gErrR (by omega) hr⟩, ⟨tq, q, var?_below h gErrS (by omega) hs⟩, by omega⟩

def dig (c : UInt8) : Bool := digitB c.toNat
def natB (l : List UInt8) : Bool := l.all dig && (decide (l = [48]) || (decide (l ≠ []) && decide (l.getD 0 0 ≠ 48)))
def decB (l : List UInt8) : Bool := natB (Lib.trimPrefix l [45]) && !(Lib.hasPrefix l [45] && decide (Lib.trimPrefix l [45] = [48]))
/-- What Int returns. -/
def intR (l : List UInt8) (lo hi : Int) : Int × Nat := if decB l = false then (0, 6) else match Lib.parseIntB 64 l with
  | .ok v => if v < lo ∨ hi < v then (0, 7) else (v, 0)
  | _ => (0, 7)

theorem str_eq (s : ByteArray) (l : List UInt8) : (s.toList == l) = decide (bs s = l) := by
  rw [Lib.toList_data]; unfold bs
  by_cases h : s.data.toList = l
  · rw [decide_eq_true h, h]; simp
  · rw [decide_eq_false h]; simpa using h

theorem natB_of (s : ByteArray) (hp : 0 < s.size) (hall : (bs s).all dig = true) : natB (bs s) = (s.toList == [48] || ((s[0].toNat : Int) != 48)) := by
  have hne : bs s ≠ [] := by intro e; have := bs_len s; rw [e] at this; simp at this; omega
  unfold natB
  rw [hall, str_eq, bs_getD s 0 hp, decide_eq_true hne]
  by_cases h : s[0] = 48
  · rw [decide_eq_false (p := s[0] ≠ 48) (by simpa using h), h]; rfl
  · have : ((s[0].toNat : Int) != 48) = true := by
      rw [bne_iff_ne]; intro e; apply h; rw [← UInt8.ofNat_toNat (x := s[0])]; show UInt8.ofNat _ = UInt8.ofNat 48; congr 1; omega
    rw [decide_eq_true (p := s[0] ≠ 48) h, this]; rfl

set_option maxRecDepth 100000 in
set_option maxHeartbeats 1000000 in
theorem isNatural_any (s : ByteArray) (w : World) (hs : s.size ≤ 1000000000) :
    Calls Tryd.prog 56 #[.string s] w fun e w' => e = .returned (.bool (natB (bs s))) ∧ w = w' := by
  have HL := Lib.hid (bs_len s)
  go_enter Tryd.func56, Tryd.ntmps56
  go_wp2_with fail
  go_loop [6] (fun i => ∃ k : Nat, k ≤ s.size ∧ i = .int .i64 k ∧ Hid (((bs s).take k).all dig = true)) (fun i => s.size - (intOf i).toNat)
  case atStart => exact ⟨0, Nat.zero_le _, rfl, rfl⟩
  case round =>
    obtain ⟨k, hk, rfl, HR⟩ := hrel
    by_cases hlt : k < s.size
    · by_cases hd : digitB (s[k].toNat : Int) = true
      · have hnx : ((bs s).take (k + 1)).all dig = true := by rw [all_take s dig k hlt, HR.out]; exact hd
        have H := Lib.hid hnx
        clear hnx
        go_wp2_with (go_at_call 36; refine (isDigit_any _ _).mono ?_; rintro e w' ⟨rfl, rfl⟩)
        go_round
        case rel => exact ⟨k + 1, by omega, by go_num, H.out⟩
        case measure => simp [intOf]; omega
      · have hfin : natB (bs s) = false := by unfold natB; rw [all_no s dig k hlt (by simpa [dig] using hd)]; rfl
        have H := Lib.hid hfin
        have hd' : digitB (s[k].toNat : Int) = false := by simpa using hd
        clear hfin hd
        go_wp2_with (go_at_call 36; refine (isDigit_any _ _).mono ?_; rintro e w' ⟨rfl, rfl⟩)
        go_ret
        exact ⟨ret_bool H.out.symm, rfl⟩
    · have hall : (bs s).all dig = true := by rw [← HR.out, List.take_of_length_le (by rw [HL.out]; omega)]
      have HA := Lib.hid hall
      clear hall
      by_cases h0 : s.size = 0
      · have e1 := toList_nil s h0
        have hfin : natB (bs s) = false := by
          have : bs s = [] := List.eq_nil_of_length_eq_zero (by rw [HL.out]; exact h0)
          unfold natB; rw [this]; rfl
        have H := Lib.hid hfin
        clear hfin
        go_wp2_with fail
        go_ret
        exact ⟨ret_bool H.out.symm, rfl⟩
      · have hp : 0 < s.size := by omega
        have e1 := toList_ne s hp
        have e2 := toList_isEmpty_no s hp
        have HV := Lib.hid (natB_of s hp HA.out)
        go_wp2_with fail
        · have hh : s.toList = [48] := by assumption
          go_ret
          exact ⟨ret_bool (by rw [HV.out, hh]; rfl), rfl⟩
        · go_ret
          exact ⟨ret_bool HV.out.symm, rfl⟩

theorem trim_one (s : ByteArray) (hs : s.size ≤ 1000000000) : (⟨(Lib.trimPrefix (bs s) [45]).toArray⟩ : ByteArray).size ≤ 1000000000 := by
  have : (Lib.trimPrefix (bs s) [45]).length ≤ (bs s).length := by unfold Lib.trimPrefix; split <;> simp
  rw [bs_len] at this
  simpa [ByteArray.size] using Nat.le_trans this hs
set_option maxRecDepth 100000 in
set_option maxHeartbeats 1000000 in
theorem isDecimal_any (s : ByteArray) (w : World) (hs : s.size ≤ 1000000000) :
    Calls Tryd.prog 32 #[.string s] w fun e w' => e = .returned (.bool (decB (bs s))) ∧ w = w' := by
  have HP := Lib.hid (Tryd.strings_CutPrefix s ⟨#[45]⟩ w)
  obtain ⟨t, ht⟩ : ∃ t, t = (⟨(Lib.trimPrefix (bs s) [45]).toArray⟩ : ByteArray) := ⟨_, rfl⟩
  obtain ⟨b, hb⟩ : ∃ b, b = Lib.hasPrefix (bs s) [45] := ⟨_, rfl⟩
  have htb : bs t = Lib.trimPrefix (bs s) [45] := by rw [ht]; rfl
  have hval : decB (bs s) = (natB (bs t) && !(b && (t.toList == [48]))) := by unfold decB; rw [hb, htb, str_eq, htb]
  have HV := Lib.hid hval
  have HN := Lib.hid (isNatural_any t w (by rw [ht]; exact trim_one s hs))
  have HP2 : Hid (Calls Tryd.prog 55 #[.string s, .string ⟨#[45]⟩] w fun e w' => e = .returned (.tuple #[.string t, .bool b]) ∧ w' = w) := by rw [ht, hb]; exact HP.out
  clear ht hb htb hval HP
  go_enter Tryd.func32, Tryd.ntmps32
  go_wp2_with fail
  refine (HP2.out).mono ?_
  rintro e w' ⟨rfl, rfl⟩
  go_wp2_with fail
  refine (HN.out).mono ?_
  rintro e w' ⟨rfl, rfl⟩
  cases hnb : natB (bs t) <;> cases b
  all_goals
    go_wp2_with fail
    all_goals
      go_ret
      exact ⟨ret_bool (by rw [HV.out, hnb]; simp [*]), rfl⟩

theorem err_iface : Tryd.prog.underlying 51 = some (.interface (Tryd.prog.methodsAt 51)) := by kernel_rfl
/-- What Int hands back. -/
def intV (r : Int × Nat) : Value := .tuple #[.int .i64 r.1, .int .i64 (r.2 : Int)]
set_option maxRecDepth 100000 in
set_option maxHeartbeats 1000000 in
theorem int_any (s : ByteArray) (lo hi : Int) (w : World) (hs : s.size ≤ 1000000000) (E : Env w) :
    Calls Tryd.prog 12 #[.string s, .int .i64 lo, .int .i64 hi] w fun e w' => e = .returned (intV (intR (bs s) lo hi)) ∧ Below w.heap.size w w' := by
  have HD := Lib.hid (isDecimal_any s w hs)
  have hneq0 := fun w => run_neq_nil_nil (P := Tryd.prog) w 51 err_iface
  have hneq1 := fun w u x => run_neq_held_nil (P := Tryd.prog) w 51 u x err_iface
  cases hdb : decB (bs s) with
  | false =>
    have hfin : intR (bs s) lo hi = (0, 6) := by unfold intR; rw [if_pos hdb]
    have H := Lib.hid hfin
    have HB := Lib.hid hdb
    clear hfin hdb
    go_enter Tryd.func12, Tryd.ntmps12
    go_wp2_with fail
    refine (HD.out).mono ?_
    rintro e w' ⟨rfl, rfl⟩
    rw [HB.out]
    go_wp2_with fail
    go_ret2
    exact ⟨by rw [H.out]; rfl, Below.refl _ _⟩
  | true =>
    have HB := Lib.hid hdb
    cases hp : Lib.parseIntB 64 (bs s) with
    | ok v =>
      have hfin : intR (bs s) lo hi = if v < lo ∨ hi < v then (0, 7) else (v, 0) := by unfold intR; rw [if_neg (by rw [hdb]; simp), hp]
      have H := Lib.hid hfin
      have HPI := Lib.hid (Tryd.strconv_ParseInt_10_at64_ok s (by omega) v hp w)
      clear hfin hdb hp
      go_enter Tryd.func12, Tryd.ntmps12
      go_wp2_with fail
      refine (HD.out).mono ?_
      rintro e w' ⟨rfl, rfl⟩
      rw [HB.out]
      go_wp2_with fail
      refine (HPI.out).mono ?_
      rintro e w' ⟨rfl, hw'⟩
      have hb' : Below w.heap.size w w' := by
        rcases hw' with rfl | ⟨t, rfl⟩
        · exact Below.refl _ _
        · exact Lib.bytesWorld_below _ _ _
      clear hw'
      by_cases h1 : v < lo
      · go_wp2_with fail
        go_ret2
        exact ⟨by rw [H.out, if_pos (.inl h1)]; rfl, hb'⟩
      · by_cases h2 : hi < v
        · go_wp2_with fail
          go_ret2
          exact ⟨by rw [H.out, if_pos (.inr h2)]; rfl, hb'⟩
        · go_wp2_with fail
          go_ret2
          exact ⟨by rw [H.out, if_neg (by omega)]; rfl, hb'⟩
    | range =>
      obtain ⟨tp, p, hvar⟩ := E.errR
      have hfin : intR (bs s) lo hi = (0, 7) := by unfold intR; rw [if_neg (by rw [hdb]; simp), hp]
      have H := Lib.hid hfin
      have HPI := Lib.hid (Tryd.strconv_ParseInt_10_at64_range_var s (by omega) hp tp p w hvar)
      clear hfin hdb hp hvar
      go_enter Tryd.func12, Tryd.ntmps12
      go_wp2_with fail
      refine (HD.out).mono ?_
      rintro e w' ⟨rfl, rfl⟩
      rw [HB.out]
      go_wp2_with fail
      refine (HPI.out).mono ?_
      rintro e w' ⟨N, rfl, _, _, hb'⟩
      go_wp2_with fail
      go_ret2
      exact ⟨by rw [H.out]; rfl, hb'⟩
    | _ =>
      obtain ⟨tp, p, hvar⟩ := E.errS
      have hfin : intR (bs s) lo hi = (0, 7) := by unfold intR; rw [if_neg (by rw [hdb]; simp), hp]
      have H := Lib.hid hfin
      have HPI := Lib.hid (Tryd.strconv_ParseInt_10_at64_syntax_var s (by omega) hp tp p w hvar)
      clear hfin hdb hp hvar
      go_enter Tryd.func12, Tryd.ntmps12
      go_wp2_with fail
      refine (HD.out).mono ?_
      rintro e w' ⟨rfl, rfl⟩
      rw [HB.out]
      go_wp2_with fail
      refine (HPI.out).mono ?_
      rintro e w' ⟨N, rfl, _, _, hb'⟩
      go_wp2_with fail
      go_ret2
      exact ⟨by rw [H.out]; rfl, hb'⟩

set_option maxHeartbeats 1000000 in
theorem digits_any (n : Int) (w : World) (h0 : -9223372036854775808 ≤ n) (h1 : n ≤ 9223372036854775807) (E : Env w) :
    Calls Tryd.prog 16 #[.int .i64 n] w fun e w' => e = .returned (.string ⟨(Lib.itoa n).toArray⟩) ∧ Below w.heap.size w w' := by
  have HF := Lib.hid (Tryd.strconv_FormatInt_10 n h0 h1 w E.pow)
  go_enter Tryd.func16, Tryd.ntmps16
  go_wp2_with fail
  refine (HF.out).mono ?_
  rintro e w' ⟨rfl, k, os, rfl⟩
  go_wp2_with fail
  go_ret
  exact ⟨rfl, Lib.below_grow _ _ (Nat.le_refl _) _ _⟩
end Go.Proofs.YtdkaogcimecfiaaDoor

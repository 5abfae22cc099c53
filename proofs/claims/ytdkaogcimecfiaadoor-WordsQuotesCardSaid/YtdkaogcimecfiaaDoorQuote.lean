/- The contracts of words.appendQuoted and words.Quote. Conditions: strings shorter than 10^9 bytes; the table of letters holds what its text lays. -/
import Derived.Test.YtdkaogcimecfiaaDoorApp
import Derived.Test.YtdkaogcimecfiaaDoorQuoted
namespace Go.Proofs.YtdkaogcimecfiaaDoor
open Go.RowKit

/-- The quoted form. -/
def quoteL (l : List UInt8) : List UInt8 := 34 :: (M.escs l ++ [34])
theorem escs_le (l : List UInt8) : (M.escs l).length ≤ 4 * l.length := by
  induction l with
  | nil => simp [M.escs_nil]
  | cons c l ih =>
    rw [M.escs_cons, List.length_append, List.length_cons]
    have := M.esc_le c
    omega
/-- What has been appended before the byte at a place. -/
def qpre (y l : List UInt8) (k : Nat) : List UInt8 := y ++ 34 :: M.escs (l.take k)
theorem qpre_len (y l : List UInt8) (k : Nat) (h : l.length ≤ 1000000000) : (qpre y l k).length ≤ y.length + 1 + 4000000000 := by
  unfold qpre
  rw [List.length_append, List.length_cons]
  have := escs_le (l.take k)
  rw [List.length_take] at this
  omega
theorem qpre_next (y : List UInt8) (s : ByteArray) (k : Nat) (h : k < s.size) : qpre y (bs s) (k + 1) = qpre y (bs s) k ++ M.esc s[k] := by
  unfold qpre
  rw [List.take_succ_eq_append_getElem (by rw [bs_len]; exact h), M.escs_snoc, bs_get _ _ h]; simp

set_option maxRecDepth 100000 in
set_option maxHeartbeats 1000000 in
theorem appendQuoted_any (base : Nat) (v : Value) (y : List UInt8) (s : ByteArray) (w : World) (hown0 : w.ownsRow base 5 1 v y.length (bvs y)) (hb0 : base ≤ w.heap.size) (h7 : 7 ≤ base) (hy : y.length ≤ 5000000000) (hs : s.size ≤ 1000000000) (T : Tab w) :
    Calls Tryd.prog 42 #[v, .string s] w fun e w' => ∃ v', e = .returned v' ∧ w'.ownsRow base 5 1 v' (y ++ quoteL (bs s)).length (bvs (y ++ quoteL (bs s))) ∧ Below base w w' := by
  obtain ⟨i0, hi, hz0, hz1, hz2⟩ := info_parts info_u8
  have HOWN := Lib.hid hown0
  have TT : Hid (∀ W, Below base w W → Tab W) := fun W hb => T.below hb (by show _ < base; omega)
  have HL := Lib.hid (bs_len s)
  clear hown0
  go_enter Tryd.func42, Tryd.ntmps42
  go_wp2_with (at_builtin; refine wpList_append_own _ rfl _ _ 38 rfl base 5 i0 (.int .u8 0) 1 1 Tryd.underlying38 hi hz0 hz1 hz2 rfl (by decide) _ _ _ rfl (HOWN.out.alloc _) ⟨w.heap.size, 0, none⟩ 1 1 [.int .u8 34] rfl rfl ?c1 ?c2 ?c3 ?c4 ?c5 ?_)
  case c1 => exact cell_one_new _ _ _
  case c2 => simp [Value.oneCell']
  case c3 => unfold maxLen; omega
  case c4 => omega
  case c5 => simp; omega
  intro v1 w1 hown1 hgrow _
  have hB1 : Below base w w1 := ((Below.refl base w).alloc hb0 _).grown hgrow (by simp; omega) (fun g hg => (HOWN.out.lt g hg).1)
  have e1 : bvs y ++ [Value.int .u8 34] = bvs (qpre y (bs s) 0) := by
    unfold qpre; rw [List.take_zero, M.escs_nil, bvs_app]; rfl
  rw [e1, show y.length + 1 = (qpre y (bs s) 0).length from by unfold qpre; rw [List.take_zero, M.escs_nil]; simp] at hown1
  have HO1 := Lib.hid hown1
  clear hgrow hown1 e1
  go_wp2_with fail
  go_loopw [0, 11] (fun v i wr => ∃ k : Nat, k ≤ s.size ∧ i = .int .i64 k ∧ Hid (wr.ownsRow base 5 1 v (qpre y (bs s) k).length (bvs (qpre y (bs s) k))) ∧ Below base w wr) (fun _ i _ => s.size - (intOf i).toNat)
  case atStart => exact ⟨0, Nat.zero_le _, rfl, HO1, hB1⟩
  case round =>
    obtain ⟨k, hk, rfl, HW, hB⟩ := hrel
    have hBs := hB.size
    by_cases hlt : k < s.size
    · go_wp2_with fail
      refine (appendChar_any base _ (qpre y (bs s) k) s[k] _ HW.out (by omega) (by have := qpre_len y (bs s) k (by rw [HL.out]; exact hs); omega) (TT.out _ hB)).mono ?_
      rintro e w' ⟨v', rfl, hown', hB'⟩
      have hB2 : Below base w w' := hB.trans hB'
      rw [← qpre_next y s k hlt, ← List.length_append, ← qpre_next y s k hlt] at hown'
      have HO := Lib.hid hown'
      clear hown'
      go_wp2_with fail
      go_roundw
      case rel => exact ⟨k + 1, by omega, by go_num, HO, hB2⟩
      case measure => simp [intOf]; omega
    · obtain rfl : k = s.size := by omega
      have hlen := qpre_len y (bs s) s.size (by rw [HL.out]; exact hs)
      go_wp2_with (at_builtin; refine wpList_append_own _ rfl _ _ 38 rfl base 5 i0 (.int .u8 0) 1 1 Tryd.underlying38 hi hz0 hz1 hz2 rfl (by decide) _ _ _ rfl (HW.out.alloc _) ⟨wr.heap.size, 0, none⟩ 1 1 [.int .u8 34] rfl rfl ?d1 ?d2 ?d3 ?d4 ?d5 ?_)
      case d1 => exact cell_one_new _ _ _
      case d2 => simp [Value.oneCell']
      case d3 => unfold maxLen; omega
      case d4 => omega
      case d5 => simp; omega
      intro v2 w2 hown2 hgrow _
      have hB3 : Below base w w2 := (hB.alloc (by omega) _).grown hgrow (by simp; omega) (fun g hg => (HW.out.lt g hg).1)
      have e2 : qpre y (bs s) s.size ++ [34] = y ++ quoteL (bs s) := by
        unfold qpre quoteL
        rw [List.take_of_length_le (by rw [HL.out]; omega)]; simp
      have hown3 : w2.ownsRow base 5 1 v2 (y ++ quoteL (bs s)).length (bvs (y ++ quoteL (bs s))) := by
        rw [← e2, List.length_append, bvs_app]; exact hown2
      have HO := Lib.hid hown3
      clear hgrow hown2 hown3 e2
      go_wp2_with fail
      go_ret
      exact ⟨v2, rfl, HO.out, hB3⟩

set_option maxHeartbeats 1000000 in
theorem quote_any (s : ByteArray) (w : World) (hs : s.size ≤ 1000000000) (T : Tab w) (hw : 7 ≤ w.heap.size) :
    Calls Tryd.prog 20 #[.string s] w fun e w' => e = .returned (.string ⟨(quoteL (bs s)).toArray⟩) ∧ Below w.heap.size w w' := by
  have HA := Lib.hid (appendQuoted_any w.heap.size (.slice none 0 0) [] s w (World.ownsRow_nil _ _ _ _) (Nat.le_refl _) hw (by simp) hs T)
  go_enter Tryd.func20, Tryd.ntmps20
  go_wp2_with fail
  refine (HA.out).mono ?_
  rintro e w' ⟨v', rfl, hown, hB⟩
  have hst := str_own rfl hown
  rw [List.nil_append] at hst
  clear hown
  go_wp2_with fail
  go_ret
  exact ⟨rfl, hB⟩
end Go.Proofs.YtdkaogcimecfiaaDoor

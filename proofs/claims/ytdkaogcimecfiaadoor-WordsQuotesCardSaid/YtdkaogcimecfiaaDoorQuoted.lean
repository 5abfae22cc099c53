/- The contract of words.readQuoted. Conditions: the string is shorter than 10^9 bytes, the place is not negative, and the table words.escapes holds what the program's text lays. -/
import Derived.Test.YtdkaogcimecfiaaDoorChar
import Derived.Test.YtdkaogcimecfiaaDoorOwn
namespace Go.Proofs.YtdkaogcimecfiaaDoor
open Go.RowKit

/-- What a reader of a field or a quoted form hands back: the string, where it ends, and whether there is one. -/
def rdV (o : Option (List UInt8 × Nat)) : Value := match o with
  | some (y, n) => .tuple #[.string ⟨y.toArray⟩, .int .i64 (n : Int), .bool true]
  | none => .tuple #[.string ⟨#[]⟩, .int .i64 0, .bool false]
/-- The quoted form that begins at a place. -/
def quotedAt (l : List UInt8) (k : Nat) : Option (List UInt8 × Nat) := match l.drop k with
  | [] => none
  | c :: r => if c = 34 then (M.rq r).map fun p => (p.1, k + 1 + p.2) else none

set_option maxRecDepth 100000 in
set_option maxHeartbeats 1000000 in
theorem readQuoted_any (s : ByteArray) (k : Nat) (w : World) (hs : s.size ≤ 1000000000) (hk : k ≤ 1000000000) (T : Tab w) (hw : 7 ≤ w.heap.size) :
    Calls Tryd.prog 40 #[.string s, .int .i64 (k : Int)] w fun e w' => e = .returned (rdV (quotedAt (bs s) k)) ∧ Below w.heap.size w w' := by
  by_cases h0 : s.size ≤ k
  · have hfin : quotedAt (bs s) k = none := by unfold quotedAt; rw [bs_drop_end s k h0]
    have H := Lib.hid hfin
    clear hfin
    go_enter Tryd.func40, Tryd.ntmps40
    go_wp2_with fail
    go_ret3
    exact ⟨by rw [H.out]; rfl, Below.refl _ _⟩
  have g0 : k < s.size := by omega
  clear h0
  cases h3 : ((s[k].toNat : Int) != 34) with
  | true =>
    have hfin : quotedAt (bs s) k = none := by
      unfold quotedAt; rw [bs_drop s k g0]; simp only
      rw [if_neg]; intro e; rw [e] at h3; simp at h3
    have H := Lib.hid hfin
    clear hfin
    go_enter Tryd.func40, Tryd.ntmps40
    go_wp2_with fail
    go_ret3
    exact ⟨by rw [H.out]; rfl, Below.refl _ _⟩
  | false =>
  have hfin : quotedAt (bs s) k = (M.rq ((bs s).drop (k + 1))).map fun p => (p.1, k + 1 + p.2) := by
    unfold quotedAt; rw [bs_drop s k g0]; simp only
    rw [if_pos (show s[k] = 34 from is92 (n := 34) h3)]
  have H := Lib.hid hfin
  clear hfin
  have hc0 : ∀ (j : Nat) (W : World), j < s.size → Tab W → Calls Tryd.prog 60 #[.string (s.extract j s.size)] W fun e w' => e = .returned (rcV (M.rc ((bs s).drop j))) ∧ ∃ n, w' = W.drewN n := by
    intro j W hj TW
    have hz : (s.extract j s.size).size = s.size - j := by rw [ByteArray.size_extract]; omega
    have := readChar_any (s.extract j s.size) W (by rw [hz]; unfold maxLen; omega) (by omega) TW
    rw [bs_extract_end] at this
    exact this
  have HC := Lib.hid hc0
  have HL := Lib.hid (bs_len s)
  clear hc0
  have TT : Hid (∀ W, Below w.heap.size w W → Tab W) := fun W hb => T.below hb (by omega)
  obtain ⟨i0, hi, hz0, hz1, hz2⟩ := info_parts info_u8
  go_enter Tryd.func40, Tryd.ntmps40
  go_wp2_with fail
  rw [show decide (s.size ≤ k) = false from by simp; omega]
  go_loopw [1, 7] (fun i v wr => ∃ (j : Nat) (y : List UInt8), k + 1 ≤ j ∧ j ≤ s.size ∧ y.length ≤ j ∧ i = .int .i64 j ∧ wr.ownsRow w.heap.size 5 1 v y.length (bvs y) ∧ Below w.heap.size w wr ∧ Hid ((bs s).drop (k + 1) = M.escs y ++ (bs s).drop j ∧ j = k + 1 + (M.escs y).length))
    (fun i _ _ => s.size - (intOf i).toNat)
  case atStart => exact ⟨k + 1, [], by omega, by omega, by simp, by go_num, World.ownsRow_nil _ _ _ _, Below.refl _ _, ⟨rfl, by simp [M.escs_nil]⟩⟩
  case round =>
    obtain ⟨j, y, hj1, hj2, hyl, rfl, hown, hB, HR⟩ := hrel
    have hBs := hB.size
    by_cases hlt : j < s.size
    case neg =>
      obtain rfl : j = s.size := by omega
      have hfin : M.rq ((bs s).drop (k + 1)) = none := by rw [HR.out.1, bs_drop_end s s.size (Nat.le_refl _), M.rq_esc, M.rq_nil]; rfl
      have H2 := Lib.hid hfin
      clear hfin
      go_wp2_with fail
      go_ret3
      exact ⟨by rw [H.out, H2.out]; rfl, hB⟩
    cases h4 : ((s[j].toNat : Int) != 34) with
    | false =>
      have hfin : M.rq ((bs s).drop (k + 1)) = some (y, (M.escs y).length + 1) := by
        rw [HR.out.1, bs_drop s j hlt, show s[j] = 34 from is92 (n := 34) h4, M.rq_esc, M.rq_quote]; simp
      have H2 := Lib.hid hfin
      clear hfin
      have hst := str_own rfl hown
      have HJ := Lib.hid HR.out.2
      go_wp2_with fail
      go_ret3
      exact ⟨by rw [H.out, H2.out, Option.map_some, rdV, show k + 1 + ((M.escs y).length + 1) = j + 1 from by have := HJ.out; omega]; rfl, hB⟩
    | true =>
      have hne : ¬ s[j] = 34 := by intro e; rw [e] at h4; simp at h4
      have HN := Lib.hid hne
      clear hne
      cases hrc : M.rc ((bs s).drop j) with
      | none =>
        have hfin : M.rq ((bs s).drop (k + 1)) = none := by
          have hrc' := hrc
          rw [bs_drop s j hlt] at hrc'
          rw [HR.out.1, bs_drop s j hlt, M.rq_esc, M.rq_bad _ _ HN.out hrc']; rfl
        have H2 := Lib.hid hfin
        have HX := Lib.hid hrc
        clear hfin hrc
        go_wp2_with fail
        refine (HC.out j _ hlt (TT.out _ hB)).mono ?_
        rintro e w' ⟨rfl, nq, rfl⟩
        simp only [HX.out, rcV]
        go_wp2_with fail
        go_ret3
        exact ⟨by rw [H.out, H2.out]; rfl, below_drewN hB _⟩
      | some xn =>
        obtain ⟨x, n⟩ := xn
        obtain ⟨hn, t, ht⟩ := M.rc_pre _ _ _ hrc
        have hn1 : 1 ≤ n := by rw [hn]; exact M.esc_pos x
        have hn2 : j + n ≤ s.size := by
          have := congrArg List.length ht
          rw [List.length_drop, HL.out, List.length_append, ← hn] at this
          omega
        have hnext : (bs s).drop (k + 1) = M.escs (y ++ [x]) ++ (bs s).drop (j + n) ∧ j + n = k + 1 + (M.escs (y ++ [x])).length := by
          have e : (bs s).drop (j + n) = t := by rw [← List.drop_drop, ht, hn, List.drop_left]
          refine ⟨?_, ?_⟩
          · rw [HR.out.1, ht, e, M.escs_snoc, List.append_assoc]
          · rw [M.escs_snoc, List.length_append, ← hn]; have := HR.out.2; omega
        have HX := Lib.hid hrc
        have HNX := Lib.hid hnext
        clear hrc hnext hn ht
        go_wp2_with fail
        refine (HC.out j _ hlt (TT.out _ hB)).mono ?_
        rintro e w' ⟨rfl, nq, rfl⟩
        simp only [HX.out, rcV]
        have hown2 : (wr.drewN nq).ownsRow w.heap.size 5 1 u7 y.length (bvs y) := hown
        have hB2 : Below w.heap.size w (wr.drewN nq) := below_drewN hB nq
        have hn0 : ((n : Int) == 0) = false := by rw [beq_eq_false_iff_ne]; omega
        go_wp2_with (at_builtin; refine wpList_append_own _ rfl _ _ 38 rfl w.heap.size 5 i0 (.int .u8 0) 1 1 Tryd.underlying38 hi hz0 hz1 hz2 rfl (by decide) _ _ _ rfl (hown2.alloc _) ⟨wr.heap.size, 0, none⟩ 1 1 [.int .u8 (x.toNat : Int)] rfl rfl ?c1 ?c2 ?c3 ?c4 ?c5 ?_)
        case c1 => exact cell_one_new _ _ _
        case c2 => simp [Value.oneCell']
        case c3 => unfold maxLen; omega
        case c4 => omega
        case c5 => simp; omega
        intro v' w1 hown' hgrow _
        have hB3 : Below w.heap.size w w1 := (hB2.alloc (by simp; omega) _).grown hgrow (by simp; omega) (fun g hg => (hown2.lt g hg).1)
        rw [← bvs_snoc] at hown'
        clear hown2 hgrow hn0
        go_wp2_with fail
        go_roundw
        case rel => exact ⟨j + n, y ++ [x], by omega, hn2, by simp; omega, by go_num, by rw [List.length_append]; exact hown', hB3, HNX.out⟩
        case measure => simp [intOf]; omega
end Go.Proofs.YtdkaogcimecfiaaDoor

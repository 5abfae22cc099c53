/- The contract of the reference's quoted. Condition: strings shorter than 10^9 bytes. -/
import Derived.Test.YtdkaogcimecfiaaDoorRQuote
namespace Go.Proofs.YtdkaogcimecfiaaDoor
open Go.RowKit

/-- What the reference's reader of a quoted form hands back. -/
def rqV (o : Option (List UInt8 × Nat)) : Value := match o with
  | some (y, n) => .tuple #[.string ⟨y.toArray⟩, .int .i64 (n : Int)]
  | none => .tuple #[.string ⟨#[]⟩, .int .i64 0]
/-- A byte's form stands at a place. -/
def at_ (l : List UInt8) (j : Nat) (x : UInt8) : Prop := ∃ t, l.drop j = M.esc x ++ t

set_option maxRecDepth 100000 in
set_option maxHeartbeats 2000000 in
theorem quoted_any (s : ByteArray) (w : World) (hs : s.size ≤ 1000000000) :
    Calls Tryd.prog 41 #[.string s] w fun e w' => e = .returned (rqV (quotedAt (bs s) 0)) ∧ Below w.heap.size w w' := by
  have HL := Lib.hid (bs_len s)
  by_cases h0 : s.size = 0
  · have hfin : quotedAt (bs s) 0 = none := by unfold quotedAt; rw [bs_drop_end s 0 (by omega)]
    have H := Lib.hid hfin
    clear hfin
    go_enter Tryd.func41, Tryd.ntmps41
    go_wp2_with fail
    go_ret2
    exact ⟨by rw [H.out]; rfl, Below.refl _ _⟩
  have g0 : 0 < s.size := by omega
  have ez0 : ((s.size : Int) == 0) = false := by rw [beq_eq_false_iff_ne]; omega
  clear h0
  cases h3 : ((s[0].toNat : Int) != 34) with
  | true =>
    have hfin : quotedAt (bs s) 0 = none := by
      have hne : ¬ s[0] = 34 := by intro e; rw [e] at h3; simp at h3
      unfold quotedAt; rw [bs_drop s 0 g0]; show (if s[0] = 34 then _ else _) = _; rw [if_neg hne]
    have H := Lib.hid hfin
    clear hfin
    go_enter Tryd.func41, Tryd.ntmps41
    go_wp2_with fail
    go_ret2
    exact ⟨by rw [H.out]; rfl, Below.refl _ _⟩
  | false =>
    have h34 : s[0] = 34 := is92 (n := 34) h3
    have hfin0 : quotedAt (bs s) 0 = (M.rq ((bs s).drop 1)).map fun p => (p.1, 0 + 1 + p.2) := by
      unfold quotedAt; rw [bs_drop s 0 g0]; show (if s[0] = 34 then _ else _) = _; rw [if_pos h34]
    have H := Lib.hid hfin0
    clear hfin0 h34
    obtain ⟨i0, hi, hz0, hz1, hz2⟩ := info_parts info_u8
    go_enter Tryd.func41, Tryd.ntmps41
    go_wp2_with fail
    go_loopw [4, 5] (fun v i wr => ∃ (j : Nat) (y : List UInt8), 1 ≤ j ∧ j ≤ s.size ∧ y.length ≤ j ∧ i = .int .i64 j ∧ Hid (wr.ownsRow w.heap.size 5 1 v y.length (bvs y)) ∧ Below w.heap.size w wr ∧ Hid ((bs s).drop 1 = M.escs y ++ (bs s).drop j ∧ j = 1 + (M.escs y).length))
      (fun _ i _ => s.size - (intOf i).toNat)
    case atStart => exact ⟨1, [], by omega, by omega, by simp, by go_num, World.ownsRow_nil _ _ _ _, Below.refl _ _, ⟨rfl, by simp [M.escs_nil]⟩⟩
    case round =>
      obtain ⟨j, y, hj1, hj2, hyl, rfl, HOWN, hB, HR⟩ := hrel
      have hBs := hB.size
      by_cases hlt : j < s.size
      case neg =>
        obtain rfl : j = s.size := by omega
        have hfin : M.rq ((bs s).drop 1) = none := by rw [HR.out.1, bs_drop_end s s.size (Nat.le_refl _), M.rq_esc, M.rq_nil]; rfl
        have H2 := Lib.hid hfin
        clear hfin
        go_wp2_with fail
        go_ret2
        exact ⟨by rw [H.out, H2.out]; rfl, hB⟩
      cases h4 : ((s[j].toNat : Int) != 34) with
      | false =>
        have hfin : M.rq ((bs s).drop 1) = some (y, (M.escs y).length + 1) := by
          rw [HR.out.1, bs_drop s j hlt, show s[j] = 34 from is92 (n := 34) h4, M.rq_esc, M.rq_quote]; simp
        have H2 := Lib.hid hfin
        have hst := str_own rfl HOWN.out
        have HJ := Lib.hid HR.out.2
        have ejs : ((j : Int) == (s.size : Int)) = false := by rw [beq_eq_false_iff_ne]; omega
        clear hfin
        go_wp2_with fail
        go_ret2
        exact ⟨by rw [H.out, H2.out, Option.map_some, rqV, show 0 + 1 + ((M.escs y).length + 1) = j + 1 from by have := HJ.out; omega]; rfl, hB⟩
      | true =>
        go_wp2_with fail
        go_loopw [4, 5, 6, 7] (fun v a f c wr2 => ∃ n : Nat, n ≤ 256 ∧ c = .int .i64 n ∧ Below w.heap.size w wr2 ∧
            ((f = .bool false ∧ a = .int .i64 j ∧ Hid (wr2.ownsRow w.heap.size 5 1 v y.length (bvs y)) ∧ Hid (∀ m, m < n → ¬ at_ (bs s) j (UInt8.ofNat m))) ∨
             (∃ x : UInt8, f = .bool true ∧ a = .int .i64 ((j + (M.esc x).length : Nat) : Int) ∧ Hid (wr2.ownsRow w.heap.size 5 1 v (y ++ [x]).length (bvs (y ++ [x]))) ∧ Hid ((bs s).drop j = M.esc x ++ (bs s).drop (j + (M.esc x).length) ∧ j + (M.esc x).length ≤ s.size))))
          (fun _ _ _ c _ => 256 - (intOf c).toNat)
        case atStart => exact ⟨0, by omega, rfl, hB, .inl ⟨rfl, rfl, HOWN, fun m hm => absurd hm (Nat.not_lt_zero m)⟩⟩
        case round =>
          obtain ⟨n, hn, rfl, hB2, hAB⟩ := hrel
          have hBs2 := hB2.size
          rcases hAB with ⟨rfl, rfl, HOWN2, HNO⟩ | ⟨x, rfl, rfl, HOWN2, HX⟩
          · by_cases hn256 : n < 256
            · have hm1 : (n : Int) % 256 = (n : Int) := by omega
              have hm2 : IntKind.u8.wrap (n : Int) = (n : Int) := by rw [IntKind.wrap_u8]; omega
              obtain ⟨x, hx⟩ : ∃ x, x = UInt8.ofNat n := ⟨_, rfl⟩
              obtain ⟨t, ht⟩ : ∃ t : ByteArray, t = ⟨(M.esc x).toArray⟩ := ⟨_, rfl⟩
              have htl : t.size = (M.esc x).length := by rw [← bs_len, ht]; rfl
              have htb : bs t = M.esc x := by rw [ht]; rfl
              have hE : ∀ W : World, Calls Tryd.prog 43 #[.int .u8 (n : Int)] W fun e w' => e = .returned (.string t) ∧ Below W.heap.size W w' := fun W => by
                have h := escaped_any x W
                rw [hx, UInt8.toNat_ofNat_of_lt' (by omega), ← hx, ← ht] at h
                exact h
              have HE := Lib.hid hE
              have HTB := Lib.hid htb
              have HXN := Lib.hid hx
              have h1 := M.esc_pos x
              have h4' := M.esc_le x
              rw [← htl] at h1 h4'
              have HTL := Lib.hid htl
              clear hE htb ht hx htl
              go_wp2_with fail
              refine (HE.out _).mono ?_
              rintro e w3 ⟨rfl, hb3⟩
              have hown3 := own_stays HOWN2.out hb3
              have hB3 : Below w.heap.size w w3 := hB2.trans (hb3.mono hBs2)
              have HO3 := Lib.hid hown3
              clear hown3
              by_cases hle : t.size ≤ s.size - j
              · have hli : (t.size : Int) ≤ (s.size : Int) - (j : Int) := by omega
                have hex : bs (s.extract j (j + t.size)) = ((bs s).drop j).take t.size := by rw [bs_extract, Nat.add_sub_cancel_left]
                by_cases heq : s.extract j (j + t.size) = t
                · have hpre : (bs s).drop j = M.esc x ++ (bs s).drop (j + (M.esc x).length) ∧ j + (M.esc x).length ≤ s.size := by
                    rw [heq, HTB.out] at hex
                    refine ⟨?_, by have := HTL.out; omega⟩
                    conv => lhs; rw [← List.take_append_drop t.size ((bs s).drop j), ← hex, List.drop_drop, HTL.out]
                  have htest : ((s.extract j (j + t.size)).toList == t.toList) = true := by rw [heq]; simp
                  have HPRE := Lib.hid hpre
                  have HTEST := Lib.hid htest
                  have hy9 : y.length ≤ 1000000000 := by omega
                  clear hpre htest hex heq
                  have hle2 : j + t.size ≤ s.size := by omega
                  have htest := HTEST.out
                  go_wp2_with (at_builtin; refine wpList_append_own _ rfl _ _ 38 rfl w.heap.size 5 i0 (.int .u8 0) 1 1 Tryd.underlying38 hi hz0 hz1 hz2 rfl (by decide) _ _ _ rfl (HO3.out.alloc _) ⟨w3.heap.size, 0, none⟩ 1 1 [.int .u8 (n : Int)] rfl rfl ?c1 ?c2 ?c3 ?c4 ?c5 ?_)
                  case c1 => exact cell_one_new _ _ _
                  case c2 => simp [Value.oneCell']
                  case c3 => unfold maxLen; omega
                  case c4 => omega
                  case c5 => simp; have := hB3.size; omega
                  intro v4 w4 hown4 hgrow _
                  have hB4 : Below w.heap.size w w4 := (hB3.alloc hB3.size _).grown hgrow (by simp; have := hB3.size; omega) (fun g hg => (HO3.out.lt g hg).1)
                  have hbv : bvs (y ++ [x]) = bvs y ++ [.int .u8 (n : Int)] := by
                    rw [bvs_snoc, HXN.out, UInt8.toNat_ofNat_of_lt' (by omega)]
                  have hown5 : w4.ownsRow w.heap.size 5 1 v4 (y ++ [x]).length (bvs (y ++ [x])) := by
                    rw [hbv, List.length_append]; exact hown4
                  have HO5 := Lib.hid hown5
                  clear hown4 hown5 hgrow hbv
                  go_wp2_with fail
                  go_roundw
                  case rel => exact ⟨n + 1, by omega, by go_num, hB4, .inr ⟨x, rfl, by rw [← HTL.out]; go_num, HO5, HPRE⟩⟩
                  case measure => simp [intOf]; omega
                · have hnot : ¬ at_ (bs s) j x := by
                    rintro ⟨r, hr⟩
                    apply heq
                    apply bs_inj
                    rw [hex, hr, HTB.out, HTL.out, List.take_left]
                  have HNO2 : Hid (∀ m, m < n + 1 → ¬ at_ (bs s) j (UInt8.ofNat m)) := fun m hm => by
                    by_cases h : m < n
                    · exact HNO.out m h
                    · obtain rfl : m = n := by omega
                      rw [← HXN.out]; exact hnot
                  have htest : ((s.extract j (j + t.size)).toList == t.toList) = false := by
                    rw [beq_eq_false_iff_ne]
                    intro e
                    apply heq
                    apply bs_inj
                    rw [Lib.toList_data, Lib.toList_data] at e
                    exact e
                  have HTEST := Lib.hid htest
                  clear hnot hex heq htest
                  have hle2 : j + t.size ≤ s.size := by omega
                  have htest := HTEST.out
                  go_wp2_with fail
                  go_roundw
                  case rel => exact ⟨n + 1, by omega, by go_num, hB3, .inl ⟨rfl, rfl, HO3, HNO2⟩⟩
                  case measure => simp [intOf]; omega
              · have hli : ¬ (t.size : Int) ≤ (s.size : Int) - (j : Int) := by omega
                have hnot : ¬ at_ (bs s) j x := by
                  rintro ⟨r, hr⟩
                  have := congrArg List.length hr
                  rw [List.length_drop, HL.out, List.length_append, ← HTL.out] at this
                  omega
                have HNO2 : Hid (∀ m, m < n + 1 → ¬ at_ (bs s) j (UInt8.ofNat m)) := fun m hm => by
                  by_cases h : m < n
                  · exact HNO.out m h
                  · obtain rfl : m = n := by omega
                    rw [← HXN.out]; exact hnot
                clear hnot
                go_wp2_with fail
                go_roundw
                case rel => exact ⟨n + 1, by omega, by go_num, hB3, .inl ⟨rfl, rfl, HO3, HNO2⟩⟩
                case measure => simp [intOf]; omega
            · obtain rfl : n = 256 := by omega
              have hrc : M.rc ((bs s).drop j) = none := by
                cases hh : M.rc ((bs s).drop j) with
                | none => rfl
                | some p =>
                  obtain ⟨x, m⟩ := p
                  obtain ⟨_, t, ht⟩ := M.rc_pre _ _ _ hh
                  exact absurd ⟨t, by rw [ht]; simp⟩ (HNO.out x.toNat x.toNat_lt)
              have hne : ¬ s[j] = 34 := by intro e; rw [e] at h4; simp at h4
              have hfin : M.rq ((bs s).drop 1) = none := by
                rw [bs_drop s j hlt] at hrc
                rw [HR.out.1, bs_drop s j hlt, M.rq_esc, M.rq_bad _ _ hne hrc]; rfl
              have H2 := Lib.hid hfin
              clear hfin hrc hne
              go_wp2_with fail
              go_ret2
              exact ⟨by rw [H.out, H2.out]; rfl, hB2⟩
          · have hnx : (bs s).drop 1 = M.escs (y ++ [x]) ++ (bs s).drop (j + (M.esc x).length) ∧ j + (M.esc x).length = 1 + (M.escs (y ++ [x])).length := by
              refine ⟨?_, ?_⟩
              · rw [HR.out.1, HX.out.1, M.escs_snoc, List.append_assoc, ← HX.out.1]
              · rw [M.escs_snoc, List.length_append]; have := HR.out.2; omega
            have hx2 := HX.out.2
            have hx1 := M.esc_pos x
            have HNX := Lib.hid hnx
            clear hnx
            by_cases hn256 : n < 256
            · go_wp2_with fail
              go_roundw
              case rel => exact ⟨j + (M.esc x).length, y ++ [x], by omega, hx2, by rw [List.length_append]; simp; omega, rfl, HOWN2, hB2, HNX⟩
              case measure => simp [intOf]; omega
            · obtain rfl : n = 256 := by omega
              go_wp2_with fail
              go_roundw
              case rel => exact ⟨j + (M.esc x).length, y ++ [x], by omega, hx2, by rw [List.length_append]; simp; omega, rfl, HOWN2, hB2, HNX⟩
              case measure => simp [intOf]; omega
end Go.Proofs.YtdkaogcimecfiaaDoor

/- The contracts of Whole, Pad, Unpad and slices.Clone of the program, of Same over bytes and over values of the reference, of far. Conditions: slices that hold what is said of them. -/
import Derived.Test.YtelpgjaagkojeaaDec
import Derived.Laws.CopyOwn
import Derived.Laws.MakeOwn
namespace Go.Proofs.Ytelpgjaagkojeaa
open Go.RowKit

/-- What Whole hands back. -/
def WhE (w : World) (fs y : List UInt8) (e : Ending) (w' : World) : Prop :=
  ∃ v, e = .returned (.tuple #[v, .int .i64 (((Rm.wholeR fs y).2 : Nat) : Int)]) ∧ VL w' w'.heap.size v (Rm.wholeR fs y).1 ∧ Below w.heap.size w w'
theorem WhE.of {w w' : World} {fs y : List UInt8} {e : Ending} {n : Nat} {l : List Rm.Val} (h : Rm.wholeR fs y = (l, n)) (v : Value) (he : e = .returned (.tuple #[v, .int .i64 (n : Int)])) (hv : VL w' w'.heap.size v l) (hb : Below w.heap.size w w') : WhE w fs y e w' := by
  unfold WhE; rw [h]; exact ⟨v, he, hv, hb⟩
set_option maxRecDepth 100000 in
set_option maxHeartbeats 1000000 in
theorem whole_any (w : World) (v : Value) (fs y : List UInt8) (hv : SL encB w w.heap.size v y) (hf : fs.length ≤ 1000000000) (hy : y.length ≤ 9223372036854775807) :
    Calls Try.prog 18 #[.string ⟨fs.toArray⟩, v] w fun e w' => WhE w fs y e w' := by
  obtain ⟨A, c0, rfl⟩ := hv.form
  have HD := Lib.hid (decode_any w _ fs y hv hf hy)
  clear hv
  go_enter Try.func18, Try.ntmps18
  go_wp2_with fail
  refine HD.out.mono ?_
  rintro e w1 ⟨v1, rfl, hl, hb⟩
  obtain ⟨L, n, err, hr⟩ : ∃ L n err, Rm.decR fs y = (L, n, err) := ⟨_, _, _, rfl⟩
  have hwr : Rm.wholeR fs y = if err ≠ 0 then ([], err) else if n < y.length then ([], 6) else (L, 0) := by unfold Rm.wholeR; rw [hr]
  have hb0 : err ≠ 0 → n = 0 ∧ L = [] := fun h => by have := Rm.decR_bad (fs := fs) (b := y) (by rw [hr]; exact h); rw [hr] at this; simp only [Prod.mk.injEq] at this; exact ⟨this.2.1, this.1⟩
  rw [hr] at hl ⊢
  simp only at hl ⊢
  have HL := Lib.hid hl
  have HB := Lib.hid hb
  clear hl hb hr HD
  by_cases h0 : err = 0
  · subst h0
    rw [if_neg (by simp)] at hwr
    by_cases h1 : n < y.length
    · rw [if_pos h1] at hwr
      have HW := Lib.hid hwr
      have h1I : (n : Int) < (y.length : Int) := by omega
      clear hwr hb0 h1
      go_wp2_with fail
      go_ret2
      exact WhE.of HW.out _ rfl (VL.nil _ _) HB.out
    · rw [if_neg h1] at hwr
      have HW := Lib.hid hwr
      have h1I : ¬ (n : Int) < (y.length : Int) := by omega
      clear hwr hb0 h1
      go_wp2_with fail
      go_ret2
      exact WhE.of HW.out _ rfl HL.out HB.out
  · rw [if_pos h0] at hwr
    have HW := Lib.hid hwr
    have hd0 : ((err : Int) != 0) = true := by rw [bne_iff_ne]; omega
    clear hwr hb0 h0
    go_wp2_with fail
    go_ret2
    exact WhE.of HW.out _ rfl (VL.nil _ _) HB.out
theorem drew_drew (w : World) (a b : Nat) : (w.drewN a).drewN b = w.drewN (a + b) := by
  show World.mk .. = World.mk ..
  simp [World.drewN, Nat.add_assoc]
set_option maxRecDepth 100000 in
set_option maxHeartbeats 1000000 in
theorem rsame_any (w : World) (lim lim2 : Nat) (v v2 : Value) (y : List UInt8) (hv : SL encB w lim v y) (hv2 : SL encB w lim2 v2 y) (hy : y.length ≤ 9223372036854775807) :
    Calls Try.prog 26 #[v, v2] w fun e w' => e = .returned (.bool true) ∧ Below w.heap.size w w' := by
  obtain ⟨A, c0, rfl⟩ := hv.form
  obtain ⟨B, c1, rfl⟩ := hv2.form
  have HV := Lib.hid hv
  have HV2 := Lib.hid hv2
  clear hv hv2
  go_enter Try.func26, Try.ntmps26
  go_wp2_with fail
  go_loopw [5] (fun i wr => ∃ k m : Nat, k ≤ y.length ∧ i = .int .i64 k ∧ Hid (wr = w.drewN m)) (fun i _ => y.length - (intOf i).toNat)
  case atStart => exact ⟨0, 0, by omega, rfl, rfl⟩
  case round =>
    obtain ⟨k, m, hk, rfl, HW⟩ := hrel
    by_cases hlt : k < y.length
    · have hltI : (k : Int) < (y.length : Int) := by omega
      obtain ⟨b, off, hA, hb, hc⟩ := HV.out.at (by omega)
      obtain ⟨b2, off2, hB, hb2, hc2⟩ := HV2.out.at (by omega)
      subst hA hB
      have h1 : wr.cell? ⟨b, off + k, none⟩ = some (encB y[k]) := by rw [HW.out]; exact hc k hlt
      have h2 : wr.cell? ⟨b2, off2 + k, none⟩ = some (encB y[k]) := by rw [HW.out]; exact hc2 k hlt
      unfold encB at h1 h2
      obtain ⟨c, hcc⟩ : ∃ c, c = y[k].toNat := ⟨_, rfl⟩
      rw [← hcc] at h1 h2
      clear hc hc2 hcc
      go_wp2_with fail
      go_quiet (fail)
      go_wp2_with fail
      go_roundw
      case rel => exact ⟨k + 1, _, by omega, by go_num, by rw [HW.out, drew_drew]; rfl⟩
      case measure => simp [intOf]; omega
    · have hltI : ¬ ((k : Int) < (y.length : Int)) := by omega
      go_wp2_with fail
      go_ret
      exact ⟨rfl, by rw [HW.out]; exact below_drewN (Below.refl _ _) m⟩
theorem same_any (w : World) (lim lim2 : Nat) (v v2 : Value) (y : List UInt8) (hv : SL encB w lim v y) (hv2 : SL encB w lim2 v2 y) (hy : y.length ≤ 9223372036854775807) :
    Calls Try.prog 15 #[v, v2] w fun e w' => e = .returned (.bool true) ∧ Below w.heap.size w w' := by
  have HS := Lib.hid (rsame_any w lim lim2 v v2 y hv hv2 hy)
  clear hv hv2
  go_enter Try.func15, Try.ntmps15
  go_wp2_with fail
  refine HS.out.mono ?_
  rintro e w1 ⟨rfl, hb⟩
  have HB := Lib.hid hb
  clear hb
  go_wp2_with fail
  go_ret
  exact ⟨rfl, HB.out⟩
theorem eq_some_nil (w : World) (a : Addr) (n c : Nat) : (binOp .eql 25 (.slice (some a) n c) (.slice none 0 0)).run Try.prog w = .ok (.bool false) w := by
  have h : ∀ d : Nat, (Op.equalIn (d + 1) 25 (.slice (some a) n c) (.slice none 0 0)).run Try.prog w = .ok false w := fun d => by
    simp [Op.equalIn, run_underlying Try.underlying25]
  simp only [binOp]
  simp [Op.equal, Op.maxDepth, h 9999]
theorem eq_none_nil (w : World) : (binOp .eql 25 (.slice none 0 0) (.slice none 0 0)).run Try.prog w = .ok (.bool true) w := by
  have h : ∀ d : Nat, (Op.equalIn (d + 1) 25 (.slice none 0 0) (.slice none 0 0)).run Try.prog w = .ok true w := fun d => by
    simp [Op.equalIn, run_underlying Try.underlying25]
  simp only [binOp]
  simp [Op.equal, Op.maxDepth, h 9999]
set_option maxRecDepth 100000 in
theorem clone_any (w : World) (lim : Nat) (v : Value) (y : List UInt8) (hv : SL encB w lim v y) (hlim : lim ≤ w.heap.size) (hy : y.length ≤ 1000000000) :
    Calls Try.prog 28 #[v] w fun e w' => ∃ v', e = .returned v' ∧ OB w' w.heap.size v' y ∧ Below w.heap.size w w' := by
  rcases (show (v = .slice none 0 0 ∧ y = []) ∨ ∃ ad c, v = .slice (some ad) y.length c by
    rcases hv with ⟨rfl, rfl | ⟨ad, c, rfl⟩⟩ | ⟨b, off, c, rfl, _⟩
    · exact .inl ⟨rfl, rfl⟩
    · exact .inr ⟨_, _, rfl⟩
    · exact .inr ⟨_, _, rfl⟩) with ⟨rfl, rfl⟩ | ⟨ad, c0, rfl⟩
  · have hnil := eq_none_nil
    clear hv
    go_enter Try.func28, Try.ntmps28
    go_wp2_with fail
    go_ret
    exact ⟨_, rfl, OB.nil _ _, Below.refl _ _⟩
  · have hB1 : Below w.heap.size w (w.alloc (.cells #[] 5)) := (Below.refl _ _).alloc (Nat.le_refl _) _
    have HV := Lib.hid (hv.below hB1 hlim)
    have HN := Lib.hid (own_new w 5)
    have HB1 := Lib.hid hB1
    have hnil := eq_some_nil
    clear hv hB1
    go_enter Try.func28, Try.ntmps28
    go_wp2_with (at_builtin; refine wpList_append_sl rfl _ _ rfl w.heap.size _ _ 0 [] rfl HN.out _ y rfl HV.out (by omega) (by simp) ?_; intro v' w2 hown hgrow)
    rw [List.nil_append, Nat.zero_add] at hown
    have HO : Hid (OB w2 w.heap.size v' y) := hown
    have HB2 : Hid (Below w.heap.size w w2) := HB1.out.grown hgrow (by simp) (fun k hk => by have : w.heap.size = k := Option.some.inj hk; omega)
    clear hown hgrow
    go_wp2_with fail
    go_ret
    exact ⟨_, rfl, HO.out, HB2.out⟩

/-! ### Pad and Unpad -/
def padL (y : List UInt8) (n : Nat) : List UInt8 := y ++ 1 :: List.replicate (n - y.length - 1) 0
def padR (y : List UInt8) (n : Int) : List UInt8 × Nat := if n < 1 ∨ 4000 < n then ([], 7) else if n ≤ y.length then ([], 3) else (padL y n.toNat, 0)
def unp (y : List UInt8) : Nat → List UInt8 × Nat
  | 0 => ([], 6)
  | k + 1 => if y.getD k 0 = 0 then unp y k else if y.getD k 0 = 1 then (y.take k, 0) else ([], 6)
def unpadR (y : List UInt8) : List UInt8 × Nat := unp y y.length
theorem padL_len (y : List UInt8) (n : Nat) (h : y.length < n) : (padL y n).length = n := by simp [padL]; omega
theorem unpad_pad (y : List UInt8) (n : Nat) (h : y.length < n) : unpadR (padL y n) = (y, 0) := by
  unfold unpadR
  rw [padL_len y n h]
  have key : ∀ j, unp (padL y n) (y.length + 1 + j) = (y, 0) := by
    intro j
    induction j with
    | zero =>
      have : (padL y n).getD y.length 0 = 1 := by simp [padL, List.getD_eq_getElem?_getD]
      simp only [unp, this]
      simp [padL]
    | succ j ih =>
      have : (padL y n).getD (y.length + 1 + j) 0 = 0 := by
        simp only [padL, List.getD_eq_getElem?_getD]
        rw [List.getElem?_append_right (by omega), show y.length + 1 + j - y.length = j + 1 by omega, List.getElem?_cons_succ, List.getElem?_replicate]
        split <;> rfl
      rw [show y.length + 1 + (j + 1) = (y.length + 1 + j) + 1 by omega]
      simp only [unp, this]
      simpa using ih
  have := key (n - y.length - 1)
  rwa [show y.length + 1 + (n - y.length - 1) = n by omega] at this
theorem make_u8 (W : World) (k : IntKind) (n : Nat) (hn : n ≤ 100000) : (Instr.makeSlice 25 (.int k (n : Int)) (.int k (n : Int))).run Try.prog W = .ok (.slice (some ⟨W.heap.size, 0, none⟩) n n) (W.alloc (.cells (madeCells #[.int .u8 0] n) 5)) := by
  obtain ⟨i0, hi, hz0, hz1, hz2⟩ := info_parts info_u8
  have hb : (i0.bytes : Int) * (n : Int) ≤ 281474976710656 := by rw [hz2]; omega
  have hr := run_make (P := Try.prog) W 25 5 i0 (.int .u8 0) Try.underlying25 hi hz0 k k n n (by omega) (Int.le_refl _) hb (by omega)
  rw [hz1] at hr
  have hr2 : (Instr.makeSlice 25 (.int k (n : Int)) (.int k (n : Int))).run Try.prog W = .ok (.slice (some ⟨W.heap.size, 0, none⟩) n n) (W.alloc (.cells (madeCells (Value.int .u8 0).cells n) 5)) := by simpa using hr
  exact hr2
/-- What Pad, Unpad, Open hand back. -/
def ByE (w : World) (r : List UInt8 × Nat) (e : Ending) (w' : World) : Prop := ∃ v, e = .returned (.tuple #[v, .int .i64 (r.2 : Int)]) ∧ SL encB w' w'.heap.size v r.1 ∧ Below w.heap.size w w'
theorem ByE.bad {w w' : World} {r : List UInt8 × Nat} {e : Ending} {n : Nat} (h : r = ([], n)) (he : e = .returned (.tuple #[.slice none 0 0, .int .i64 (n : Int)])) (hb : Below w.heap.size w w') : ByE w r e w' := by
  subst h; exact ⟨_, he, SL.nil _ _, hb⟩
theorem ByE.ok {w w' : World} {r : List UInt8 × Nat} {e : Ending} {l : List UInt8} (h : r = (l, 0)) (v : Value) (he : e = .returned (.tuple #[v, .int .i64 0])) (hs : SL encB w' w'.heap.size v l) (hb : Below w.heap.size w w') : ByE w r e w' := by
  subst h; exact ⟨v, he, hs, hb⟩
set_option maxRecDepth 100000 in
set_option maxHeartbeats 1000000 in
theorem unpad_any (w : World) (lim : Nat) (v : Value) (y : List UInt8) (hv : SL encB w lim v y) (hlim : lim ≤ w.heap.size) (hy : y.length ≤ 1000000000) :
    Calls Try.prog 22 #[v] w fun e w' => ByE w (unpadR y) e w' := by
  obtain ⟨A, c0, rfl⟩ := hv.form
  have HV := Lib.hid hv
  have hcap := hv.cap
  clear hv
  go_enter Try.func22, Try.ntmps22
  go_wp2_with fail
  go_loop [4] (fun i => ∃ k : Nat, k ≤ y.length ∧ i = .int .i64 ((k : Int) - 1) ∧ Hid (unpadR y = unp y k)) (fun i => (intOf i + 1).toNat)
  case atStart => exact ⟨y.length, by omega, rfl, rfl⟩
  case round =>
    obtain ⟨k, hk, rfl, HR⟩ := hrel
    by_cases hlt : 0 < k
    · obtain ⟨j, rfl⟩ : ∃ j, k = j + 1 := ⟨k - 1, by omega⟩
      have hjI : (((j + 1 : Nat) : Int) - 1) = (j : Int) := by omega
      rw [hjI]
      have hltI : (j : Int) < (y.length : Int) := by omega
      obtain ⟨p, off, hA, hp, hc⟩ := HV.out.at (by omega)
      subst hA
      have hcell := hc j (by omega)
      unfold encB at hcell
      have hgd : y.getD j 0 = y[j] := by rw [List.getD_eq_getElem?_getD, List.getElem?_eq_getElem (by omega)]; rfl
      have HF := Lib.hid (HV.out.first (k := j) (by omega))
      have hnx : unp y (j + 1) = if y[j] = 0 then unp y j else if y[j] = 1 then (y.take j, 0) else ([], 6) := by simp only [unp, hgd]
      obtain ⟨c, hcc⟩ : ∃ c, c = y[j] := ⟨_, rfl⟩
      rw [← hcc] at hcell hnx
      have hcn : ∀ z : UInt8, ((c.toNat : Int) == (z.toNat : Int)) = (c == z) := fun z => by
        rw [Bool.eq_iff_iff, beq_iff_eq, beq_iff_eq]
        exact ⟨fun h => UInt8.toNat_inj.1 (by omega), fun h => by rw [h]⟩
      have hz0 : ((c.toNat : Int) == 0) = (c == 0) := hcn 0
      have hz1 : ((c.toNat : Int) == 1) = (c == 1) := hcn 1
      obtain ⟨x, hx⟩ : ∃ x : Int, x = (c.toNat : Int) := ⟨_, rfl⟩
      rw [← hx] at hcell hz0 hz1
      clear hc hcc hjI hgd hcn hx
      by_cases h0 : c = 0
      · rw [if_pos h0] at hnx
        have hd : (x == 0) = true := by rw [hz0, beq_iff_eq]; exact h0
        have HN : Hid (unpadR y = unp y j) := HR.out.trans hnx
        clear hnx hz0 hz1 h0
        go_wp2_with fail
        go_round
        case rel => exact ⟨j, by omega, rfl, HN.out⟩
        case measure => simp [intOf]
      · rw [if_neg h0] at hnx
        have hd : (x == 0) = false := by rw [hz0, beq_eq_false_iff_ne]; exact h0
        have hj0 : ¬ (j : Int) < 0 := by omega
        by_cases h1 : c = 1
        · rw [if_pos h1] at hnx
          have hd1 : (x != 1) = false := by rw [bne, hz1, h1]; rfl
          have HN : Hid (unpadR y = (y.take j, 0)) := HR.out.trans hnx
          have hjc : (j : Int) ≤ (c0 : Int) := by omega
          have HCL := Lib.hid (clone_any w lim _ (y.take j) HF.out hlim (by rw [List.length_take]; omega))
          clear hnx hz0 hz1 h0 h1
          go_wp2_with fail
          refine HCL.out.mono ?_
          rintro e w1 ⟨v1, rfl, ho, hb⟩
          have HO := Lib.hid ho.sl
          have HB := Lib.hid hb
          clear ho hb HCL
          go_wp2_with fail
          go_ret2
          exact ByE.ok HN.out _ rfl HO.out HB.out
        · rw [if_neg h1] at hnx
          have hd1 : (x != 1) = true := by rw [bne, hz1, Bool.not_eq_true']; rw [beq_eq_false_iff_ne]; exact h1
          have HN : Hid (unpadR y = ([], 6)) := HR.out.trans hnx
          clear hnx hz0 hz1 h0 h1
          go_wp2_with fail
          go_ret2
          exact ByE.bad HN.out rfl (Below.refl _ _)
    · obtain rfl : k = 0 := by omega
      have HN : Hid (unpadR y = ([], 6)) := HR.out
      go_wp2_with fail
      go_ret2
      exact ByE.bad HN.out rfl (Below.refl _ _)
end Go.Proofs.Ytelpgjaagkojeaa

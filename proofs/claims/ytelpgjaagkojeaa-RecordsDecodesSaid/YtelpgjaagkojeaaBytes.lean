/- The contracts of addFixed, addGroups and fixed of package records, of low, groups and number of the reference. Conditions: rows of the call's own, slices that hold the bytes, at most 10^9 of them. -/
import Derived.Test.YtelpgjaagkojeaaApp
namespace Go.Proofs.Ytelpgjaagkojeaa
open Go.RowKit

/-- A row of bytes of the call's own. -/
def OB (w : World) (base : Nat) (v : Value) (y : List UInt8) : Prop := w.ownsRow base 5 1 v y.length (y.map encB)
theorem own_below {W w2 : World} {base : Nat} {e : TypeId} {size n : Nat} {v : Value} {xs : List Value} (h : W.ownsRow base e size v n xs) (hb : Below W.heap.size W w2) : w2.ownsRow base e size v n xs :=
  h.kept (row := none) ⟨hb.os, hb.tape, hb.output, hb.size, fun k hk _ => hb.block k hk⟩ (by cases hvb : v.ownBlock with | none => exact .inl rfl | some g => exact .inr (by simp))
theorem own_lower {w : World} {base base' : Nat} {e : TypeId} {size n : Nat} {v : Value} {xs : List Value} (h : w.ownsRow base e size v n xs) (hb : base' ≤ base) : w.ownsRow base' e size v n xs := by
  refine ⟨h.1, ?_⟩
  rcases h.2 with h | ⟨g, cap, cur, h1, h2, h3⟩
  · exact .inl h
  · exact .inr ⟨g, cap, cur, h1, by omega, h3⟩
section
variable {w w' : World} {base : Nat} {v : Value} {y : List UInt8}
theorem OB.nil (w : World) (base : Nat) : OB w base (.slice none 0 0) [] := World.ownsRow_nil w base 5 1
theorem OB.drewN (h : OB w base v y) (k : Nat) : OB (w.drewN k) base v y := ownsRow_drewN h k
theorem OB.sl (h : OB w base v y) : SL encB w w.heap.size v y := SL.of_own rfl h
theorem OB.below (h : OB w base v y) (hb : Below w.heap.size w w') : OB w' base v y := own_below h hb
theorem OB.alloc (h : OB w base v y) (o : Obj) : OB (w.alloc o) base v y := World.ownsRow.alloc h o
theorem OB.lower {b : Nat} (h : OB w base v y) (hb : b ≤ base) : OB w b v y := own_lower h hb
theorem OB.form (h : OB w base v y) : ∃ A c, v = .slice A y.length c := h.sl.form
/-- What an append to a row of the call's own leaves below. -/
theorem OB.grown {b : Nat} {a : World} (h : OB w base v y) (hB : Below b a w) (hg : w.grownBy w' v.ownBlock) (h1 : b ≤ base) (h2 : b ≤ w.heap.size) : Below b a w' :=
  hB.grown hg h2 (fun k hk => by have := World.ownsRow.lt h k hk; omega)
end
/-- What lies below a block is as it was, and so is each block of another kind than bytes. -/
structure Bk (base : Nat) (w w' : World) : Prop where
  bl : Below base w w'
  kp : ∀ b cs t, t ≠ 5 → Blk w b cs t → Blk w' b cs t
section
variable {w w' a : World} {base b : Nat} {v : Value} {y : List UInt8}
theorem Bk.refl (base : Nat) (w : World) : Bk base w w := ⟨Below.refl _ _, fun _ _ _ _ h => h⟩
theorem Bk.size (h : Bk base w w') : w.heap.size ≤ w'.heap.size := h.bl.size
theorem Bk.trans {c : World} (h : Bk base w w') (k : Bk base w' c) : Bk base w c := ⟨h.bl.trans k.bl, fun b cs t ht hb => k.kp b cs t ht (h.kp b cs t ht hb)⟩
theorem Bk.alloc (h : Bk base a w) (hb : base ≤ w.heap.size) (o : Obj) : Bk base a (w.alloc o) :=
  ⟨h.bl.alloc hb o, fun b cs t ht hk => by
    have h1 := h.kp b cs t ht hk
    exact h1.of_block (((Below.refl w.heap.size w).alloc (Nat.le_refl _) o).block b h1.lt)⟩
theorem Bk.drewN (h : Bk base a w) (n : Nat) : Bk base a (w.drewN n) := ⟨below_drewN h.bl n, fun b cs t ht hk => h.kp b cs t ht hk⟩
theorem Bk.below (h : Below base w w') (hs : w.heap.size ≤ base) : Bk base w w' := ⟨h, fun b cs t _ hk => hk.of_block (h.block b (by have := hk.lt; omega))⟩
theorem Bk.mono (h : Bk base w w') (hb : b ≤ base) : Bk b w w' := ⟨h.bl.mono hb, h.kp⟩
theorem OB.apart (h : OB w base v y) {cs : Array Value} {t : TypeId} (hk : Blk w b cs t) (ht : t ≠ 5) : some b ≠ v.ownBlock := by
  intro e
  rcases h.2 with ⟨rfl, _⟩ | ⟨g, cap, cur, rfl, _, hg, _⟩
  · simp [Value.ownBlock] at e
  · have e' : b = g := by simpa [Value.ownBlock] using e
    subst e'
    have := hk.symm.trans hg
    injection this with this
    injection this with _ h2 _
    exact ht h2
theorem OB.grownK (h : OB w base v y) (hB : Bk b a w) (hg : w.grownBy w' v.ownBlock) (h1 : b ≤ base) (h2 : b ≤ w.heap.size) : Bk b a w' :=
  ⟨h.grown hB.bl hg h1 h2, fun k cs t ht hk => by
    have hw := hB.kp k cs t ht hk
    exact hw.grown hg (h.apart hw ht)⟩
end
theorem wpList_append_one {w : World} {ops : Array Oper} {rest : List Oper} {o : Oper} {a : Act} {Q : Exit → Act → World → Prop} (hgd : o.guard = none) (s x : Operand) (ho : o.op = .call { callee := .builtin .append, args := #[s, x], argTypes := #[25, 25] })
    (base : Nat) (v : Value) (y : List UInt8) (hs : a.eval s = v) (hown : OB w base v y) (c : UInt8) (g : Nat) (z : Int) (hz : z = (c.toNat : Int)) (hx : a.eval x = .slice (some ⟨g, 0, none⟩) 1 1) (hc : w.cell? ⟨g, 0, none⟩ = some (.int .u8 z)) (hb : y.length + 1 ≤ 1000000000) (hbase : base ≤ w.heap.size)
    (h : ∀ v' w', OB w' base v' (y ++ [c]) → w.grownBy w' v.ownBlock → wpList Try.prog ops Q rest (a.put o.dst v') w') : wpList Try.prog ops Q (o :: rest) a w := by
  refine wpList_append_sl hgd s x ho base w.heap.size v y.length (y.map encB) hs hown _ [c] hx ?_ (by simpa using hb) hbase (fun v' w' h1 h2 => h v' w' ?_ h2)
  · refine .inr ⟨g, 0, 1, rfl, World.block_lt_of_cell? _ _ hc, Nat.le_refl _, fun i hi => ?_⟩
    obtain rfl : i = 0 := by simpa using hi
    rw [Nat.add_zero, hc, hz]; rfl
  · unfold OB
    rw [List.length_append, List.map_append]
    exact h1
theorem byte_int (x : Nat) : (x : Int) % 256 = ((UInt8.ofNat x).toNat : Int) := by rw [UInt8.toNat_ofNat']; omega
theorem cell_new1 (w : World) (v : Value) (t : TypeId) : (w.alloc (.cells #[v] t)).cell? ⟨w.heap.size, 0, none⟩ = some v := by
  rw [cell_of_row _ w.heap.size 0 _ _ _ (heap_alloc_new w _)]; rfl

set_option maxRecDepth 100000 in
set_option maxHeartbeats 1000000 in
theorem addFixed_any (w : World) (base : Nat) (v : Value) (y : List UInt8) (n k : Nat) (hown : OB w base v y) (hb : base ≤ w.heap.size) (hy : y.length + k ≤ 1000000000) (hn : n < 18446744073709551616) :
    Calls Try.prog 48 #[v, .int .u64 (n : Int), .int .i64 (k : Int)] w fun e w' => ∃ v', e = .returned v' ∧ OB w' base v' (y ++ Rm.low k n) ∧ Bk base w w' := by
  have HO := Lib.hid hown
  clear hown
  obtain ⟨i0, hi, hz0, hz1, hz2⟩ := info_parts info_u8
  go_enter Try.func48, Try.ntmps48
  go_wp2_with fail
  go_loopw [0, 1, 8] (fun b m i wr => ∃ j x : Nat, j ≤ k ∧ i = .int .i64 j ∧ m = .int .u64 (x : Int) ∧ Hid (x = n / 256 ^ j) ∧ Hid (OB wr base b (y ++ Rm.low j n)) ∧ Hid (Bk base w wr)) (fun _ _ i _ => k - (intOf i).toNat)
  case atStart => exact ⟨0, n, by omega, rfl, rfl, by simp [Hid], by simpa [Hid, Rm.low] using HO.out, Bk.refl _ _⟩
  case round =>
    obtain ⟨j, x, hj, rfl, rfl, HX, HOj, HB⟩ := hrel
    by_cases hlt : j < k
    · have hltI : (j : Int) < (k : Int) := by omega
      have hx64 : x < 18446744073709551616 := by rw [HX.out]; exact Nat.lt_of_le_of_lt (Nat.div_le_self _ _) hn
      have hbs := HB.out.size
      have hll : (y ++ Rm.low j n).length + 1 ≤ 1000000000 := by rw [List.length_append, Rm.low_len]; omega
      have hz := Lib.hid (byte_int x)
      go_wp2_with (at_builtin; refine wpList_append_one rfl _ _ rfl base _ (y ++ Rm.low j n) rfl (HOj.out.alloc _) (UInt8.ofNat x) wr.heap.size _ hz.out rfl (cell_new1 _ _ _) hll (by simp; omega) ?_; intro v' w2 hown2 hgrow)
      have HB2 : Hid (Bk base w w2) := (HOj.out.alloc _).grownK (HB.out.alloc (by omega) _) hgrow (Nat.le_refl _) (by simp; omega)
      have HO2 : Hid (OB w2 base v' (y ++ Rm.low (j + 1) n)) := by
        rw [Rm.low_snoc, ← HX.out, ← List.append_assoc]; exact hown2
      clear hown2 hgrow hz hll
      go_wp2_with fail
      go_roundw
      case rel => exact ⟨j + 1, x / 256, by omega, by go_num, by go_num, by rw [HX.out, Nat.div_div_eq_div_mul, ← Nat.pow_succ]; rfl, HO2.out, HB2.out⟩
      case measure => simp [intOf]; omega
    · obtain rfl : j = k := by omega
      have hltI : ¬ ((j : Int) < (j : Int)) := by omega
      go_wp2_with fail
      go_ret
      exact ⟨_, rfl, HOj.out, HB.out⟩
theorem or128_all : ((List.range 256).all fun n => decide (bits .or .u8 ((n : Nat) : Int) 128 = (((n % 128 + 128 : Nat)) : Int))) = true := by decide +kernel
theorem or128 (x : Nat) : bits .or .u8 ((x : Int) % 256) 128 = ((UInt8.ofNat (x % 128 + 128)).toNat : Int) := by
  have := List.all_eq_true.1 or128_all (x % 256) (List.mem_range.2 (Nat.mod_lt _ (by omega)))
  simp only [decide_eq_true_eq] at this
  rw [show ((x : Int) % 256) = ((x % 256 : Nat) : Int) by omega, this, UInt8.toNat_ofNat']
  congr 1
  omega
set_option maxRecDepth 100000 in
set_option maxHeartbeats 1000000 in
theorem addGroups_any (w : World) (base : Nat) (v : Value) (y : List UInt8) (n : Nat) (hown : OB w base v y) (hb : base ≤ w.heap.size) (hy : y.length + 10 ≤ 1000000000) (hn : n < 18446744073709551616) :
    Calls Try.prog 51 #[v, .int .u64 (n : Int)] w fun e w' => ∃ v', e = .returned v' ∧ OB w' base v' (y ++ Rm.grps n) ∧ Bk base w w' := by
  have HO := Lib.hid hown
  clear hown
  obtain ⟨i0, hi, hz0, hz1, hz2⟩ := info_parts info_u8
  go_enter Try.func51, Try.ntmps51
  go_wp2_with fail
  go_loopw [0, 1] (fun b m wr => ∃ (f x : Nat) (z : List UInt8), f ≤ 9 ∧ m = .int .u64 (x : Int) ∧ Hid (x < 128 ^ (f + 1)) ∧ x < 18446744073709551616 ∧ Hid (z ++ Rm.grp (f + 1) x = y ++ Rm.grps n) ∧ z.length + f + 1 ≤ y.length + 10 ∧ Hid (OB wr base b z) ∧ Hid (Bk base w wr)) (fun _ m _ => (intOf m).toNat)
  case atStart => exact ⟨9, n, y, by omega, rfl, by show n < 128 ^ 10; omega, hn, rfl, by omega, HO.out, Bk.refl _ _⟩
  case round =>
    obtain ⟨f, x, z, hf, rfl, HX, hx64, HZ, hzl, HOj, HB⟩ := hrel
    have hbs := HB.out.size
    by_cases hbig : 127 < x
    · have hbI : (127 : Int) < (x : Int) := by omega
      have hz := Lib.hid (or128 x)
      have hf0 : 0 < f := by
        rcases Nat.eq_zero_or_pos f with e | e
        · have := HX.out; rw [e] at this; omega
        · exact e
      obtain ⟨g, rfl⟩ : ∃ g, f = g + 1 := ⟨f - 1, by omega⟩
      go_wp2_with (at_builtin; refine wpList_append_one rfl _ _ rfl base _ z rfl (HOj.out.alloc _) (UInt8.ofNat (x % 128 + 128)) wr.heap.size _ hz.out rfl (cell_new1 _ _ _) (by omega) (by simp; omega) ?_; intro v' w2 hown2 hgrow)
      have HB2 : Hid (Bk base w w2) := (HOj.out.alloc _).grownK (HB.out.alloc (by omega) _) hgrow (Nat.le_refl _) (by simp; omega)
      have HO2 := Lib.hid hown2
      clear hown2 hgrow hz
      go_wp2_with fail
      go_roundw
      case rel =>
        refine ⟨g, x / 128, z ++ [UInt8.ofNat (x % 128 + 128)], by omega, by go_num, ?_, by omega, ?_, by simp; omega, HO2.out, HB2.out⟩
        · have := HX.out
          rw [Nat.pow_succ] at this
          exact Nat.div_lt_of_lt_mul (by omega)
        · have := HZ.out
          rw [Rm.grp_big _ _ (by omega)] at this
          rw [List.append_assoc]; exact this
      case measure => simp [intOf]; omega
    · have hbI : ¬ (127 : Int) < (x : Int) := by omega
      have hz : Hid ((x : Int) = ((UInt8.ofNat x).toNat : Int)) := by show (x : Int) = _; rw [← byte_int]; omega
      go_wp2_with (at_builtin; refine wpList_append_one rfl _ _ rfl base _ z rfl (HOj.out.alloc _) (UInt8.ofNat x) wr.heap.size _ hz.out rfl (cell_new1 _ _ _) (by omega) (by simp; omega) ?_; intro v' w2 hown2 hgrow)
      have HB2 : Hid (Bk base w w2) := (HOj.out.alloc _).grownK (HB.out.alloc (by omega) _) hgrow (Nat.le_refl _) (by simp; omega)
      have HO2 : Hid (OB w2 base v' (y ++ Rm.grps n)) := by rw [← HZ.out, Rm.grp_small _ _ (by omega)]; exact hown2
      clear hown2 hgrow hz
      go_wp2_with fail
      go_ret
      exact ⟨_, rfl, HO2.out, HB2.out⟩
theorem or64 (a c i : Nat) (ha : a < 256 ^ i) (hi : i < 8) (hc : c < 256) : bits .or .u64 (a : Int) (((c * 256 ^ i : Nat)) : Int) = ((a + c * 256 ^ i : Nat) : Int) := by
  have h1 : 256 ^ i ≤ 256 ^ 7 := Nat.pow_le_pow_right (by omega) (by omega)
  have h2 : c * 256 ^ i ≤ 255 * 256 ^ 7 := Nat.mul_le_mul (by omega) h1
  rw [u64_or_nat a _ (by omega) (by omega)]
  congr 1
  have e : (256 : Nat) ^ i = 2 ^ (8 * i) := by rw [Nat.pow_mul]
  rw [e] at ha ⊢
  have := Nat.two_pow_add_eq_or_of_lt (i := 8 * i) (b := a) ha c
  rw [Nat.mul_comm c, Nat.or_comm, ← this, Nat.add_comm]
theorem num_take (y : List UInt8) (k : Nat) (h : k < y.length) : Rm.num (y.take (k + 1)) = Rm.num (y.take k) + y[k].toNat * 256 ^ k := by
  rw [List.take_succ_eq_append_getElem h, Rm.num_snoc, List.length_take, Nat.min_eq_left (by omega)]
theorem num_take_lt (y : List UInt8) (k : Nat) (h : k ≤ y.length) : Rm.num (y.take k) < 256 ^ k := by
  have := Rm.num_lt (y.take k)
  rwa [List.length_take, Nat.min_eq_left h] at this
set_option maxRecDepth 100000 in
set_option maxHeartbeats 1000000 in
theorem fixed_any (w : World) (lim : Nat) (v : Value) (y : List UInt8) (hv : SL encB w lim v y) (hy : y.length ≤ 8) :
    Calls Try.prog 50 #[v] w fun e w' => e = .returned (.int .u64 ((Rm.num y : Nat) : Int)) ∧ w = w' := by
  obtain ⟨A, c0, rfl⟩ := hv.form
  have HV := Lib.hid hv
  clear hv
  go_enter Try.func50, Try.ntmps50
  go_wp2_with fail
  go_loop [3, 8] (fun v i => ∃ k x : Nat, k ≤ y.length ∧ i = .int .i64 k ∧ v = .int .u64 (x : Int) ∧ Hid (x = Rm.num (y.take k))) (fun _ i => y.length - (intOf i).toNat)
  case atStart => exact ⟨0, 0, by omega, rfl, rfl, rfl⟩
  case round =>
    obtain ⟨k, x, hk, rfl, rfl, HX⟩ := hrel
    by_cases hlt : k < y.length
    · have hltI : (k : Int) < (y.length : Int) := by omega
      obtain ⟨p, off, hA, hp, hc⟩ := HV.out.at (by omega)
      subst hA
      have hcell := hc k hlt
      unfold encB at hcell
      have hc8 := y[k].toNat_lt
      have HN := Lib.hid (num_take y k hlt)
      obtain ⟨c, hcc⟩ : ∃ c, c = y[k].toNat := ⟨_, rfl⟩
      rw [← hcc] at hcell HN hc8
      have hxl := num_take_lt y k (by omega)
      rw [← HX.out] at hxl
      have hor := or64 x c k hxl (by omega) (by omega)
      have hsh : Hid (IntKind.u64.wrap ((c : Int) * 2 ^ (8 * k)) = ((c * 256 ^ k : Nat) : Int)) := by
        show ((c : Int) * 2 ^ (8 * k)) % 18446744073709551616 = ((c * 256 ^ k : Nat) : Int)
        have h1 : 256 ^ k ≤ 256 ^ 7 := Nat.pow_le_pow_right (by omega) (by omega)
        have h2 : c * 256 ^ k ≤ 255 * 256 ^ 7 := Nat.mul_le_mul (by omega) h1
        have e : ((2 : Int) ^ (8 * k)) = ((256 ^ k : Nat) : Int) := by rw [Int.natCast_pow, Int.pow_mul]; rfl
        rw [e, ← Int.natCast_mul]
        omega
      clear hc hcc hxl
      have hor := Lib.hid hor
      go_wp2_with fail
      go_round
      case rel => exact ⟨k + 1, x + c * 256 ^ k, by omega, by go_num, by rw [hsh.out, hor.out], by rw [HN.out, HX.out]; rfl⟩
      case measure => simp [intOf]; omega
    · obtain rfl : k = y.length := by omega
      have HX2 := HX
      rw [List.take_length] at HX2
      have hltI : ¬ ((y.length : Int) < (y.length : Int)) := by omega
      go_wp2_with fail
      go_ret
      exact ⟨ret_nat HX2.out, rfl⟩

/-! ### the reference's -/
theorem OB.lit (w : World) (base : Nat) (c : UInt8) (z : Int) (hz : z = (c.toNat : Int)) (hb : base ≤ w.heap.size) : OB (w.alloc (.cells #[.int .u8 z] 5)) base (.slice (some ⟨w.heap.size, 0, none⟩) 1 1) [c] := by
  subst hz
  exact World.ownsRow_lit w #[.int .u8 (c.toNat : Int)] 1 hb (by unfold maxLen; omega) (by simp)
set_option maxRecDepth 100000 in
set_option maxHeartbeats 1000000 in
theorem low_any (w : World) (n k : Nat) (hk1 : k ≤ 1000) (hn : n < 18446744073709551616) :
    Calls Try.prog 34 #[.int .u64 (n : Int), .int .i64 (k : Int)] w fun e w' => ∃ v', e = .returned v' ∧ OB w' w.heap.size v' (Rm.low k n) ∧ Below w.heap.size w w' := by
  obtain ⟨i0, hi, hz0, hz1, hz2⟩ := info_parts info_u8
  go_enter Try.func34, Try.ntmps34
  go_wp2_with fail
  go_loopw [0, 5, 6] (fun m b i wr => ∃ j x : Nat, j ≤ k ∧ i = .int .i64 j ∧ m = .int .u64 (x : Int) ∧ Hid (x = n / 256 ^ j) ∧ Hid (OB wr w.heap.size b (Rm.low j n)) ∧ Hid (Below w.heap.size w wr)) (fun _ _ i _ => k - (intOf i).toNat)
  case atStart => exact ⟨0, n, by omega, rfl, rfl, by simp [Hid], OB.nil _ _, Below.refl _ _⟩
  case round =>
    obtain ⟨j, x, hj, rfl, rfl, HX, HOj, HB⟩ := hrel
    by_cases hlt : j < k
    · have hltI : (j : Int) < (k : Int) := by omega
      have hx64 : x < 18446744073709551616 := by rw [HX.out]; exact Nat.lt_of_le_of_lt (Nat.div_le_self _ _) hn
      have hbs := HB.out.size
      have hll : (Rm.low j n).length + 1 ≤ 1000000000 := by rw [Rm.low_len]; omega
      have hz := Lib.hid (byte_int x)
      go_wp2_with (at_builtin; refine wpList_append_one rfl _ _ rfl w.heap.size _ (Rm.low j n) rfl (HOj.out.alloc _) (UInt8.ofNat x) wr.heap.size _ hz.out rfl (cell_new1 _ _ _) hll (by simp; omega) ?_; intro v' w2 hown2 hgrow)
      have HB2 : Hid (Below w.heap.size w w2) := (HOj.out.alloc _).grown (HB.out.alloc (by omega) _) hgrow (Nat.le_refl _) (by simp; omega)
      have HO2 : Hid (OB w2 w.heap.size v' (Rm.low (j + 1) n)) := by
        rw [Rm.low_snoc, ← HX.out]; exact hown2
      clear hown2 hgrow hz hll
      go_wp2_with fail
      go_round
      case rel => exact ⟨j + 1, x / 256, by omega, by go_num, by go_num, by rw [HX.out, Nat.div_div_eq_div_mul, ← Nat.pow_succ]; rfl, HO2.out, HB2.out⟩
      case measure => simp [intOf]; omega
    · obtain rfl : j = k := by omega
      have hltI : ¬ ((j : Int) < (j : Int)) := by omega
      go_wp2_with fail
      go_ret
      exact ⟨_, rfl, HOj.out, HB.out⟩
theorem num_drop (y : List UInt8) (k : Nat) (h : k < y.length) : Rm.num (y.drop k) = 256 * Rm.num (y.drop (k + 1)) + y[k].toNat := by
  rw [List.drop_eq_getElem_cons h]; simp only [Rm.num]; omega
set_option maxRecDepth 100000 in
set_option maxHeartbeats 1000000 in
theorem number_any (w : World) (lim : Nat) (v : Value) (y : List UInt8) (hv : SL encB w lim v y) (hy : y.length ≤ 8) :
    Calls Try.prog 35 #[v] w fun e w' => e = .returned (.int .u64 ((Rm.num y : Nat) : Int)) ∧ w = w' := by
  obtain ⟨A, c0, rfl⟩ := hv.form
  have HV := Lib.hid hv
  clear hv
  go_enter Try.func35, Try.ntmps35
  go_wp2_with fail
  go_loop [3, 4] (fun v i => ∃ k x : Nat, k ≤ y.length ∧ i = .int .i64 ((k : Int) - 1) ∧ v = .int .u64 (x : Int) ∧ Hid (x = Rm.num (y.drop k))) (fun _ i => (intOf i + 1).toNat)
  case atStart => exact ⟨y.length, 0, by omega, rfl, rfl, by rw [List.drop_length]; rfl⟩
  case round =>
    obtain ⟨k, x, hk, rfl, rfl, HX⟩ := hrel
    by_cases hlt : 0 < k
    · obtain ⟨j, rfl⟩ : ∃ j, k = j + 1 := ⟨k - 1, by omega⟩
      have hjI : (((j + 1 : Nat) : Int) - 1) = (j : Int) := by omega
      rw [hjI]
      have hltI : (j : Int) < (y.length : Int) := by omega
      obtain ⟨p, off, hA, hp, hc⟩ := HV.out.at (by omega)
      subst hA
      have hcell := hc j (by omega)
      unfold encB at hcell
      have hc8 := y[j].toNat_lt
      have HN := Lib.hid (num_drop y j (by omega))
      obtain ⟨c, hcc⟩ : ∃ c, c = y[j].toNat := ⟨_, rfl⟩
      rw [← hcc] at hcell HN hc8
      have hxl : x < 256 ^ 7 := by
        have h1 := Rm.num_lt (y.drop (j + 1))
        rw [← HX.out, List.length_drop] at h1
        exact Nat.lt_of_lt_of_le h1 (Nat.pow_le_pow_right (by omega) (by omega))
      have hxb : x < 72057594037927936 := hxl
      clear hc hcc hxl hjI
      go_wp2_with fail
      go_round
      case rel => exact ⟨j, 256 * x + c, by omega, by go_num, by go_num, by rw [HN.out, HX.out]; rfl⟩
      case measure => simp [intOf]
    · obtain rfl : k = 0 := by omega
      have HX2 := HX
      rw [List.drop_zero] at HX2
      go_wp2_with fail
      go_ret
      exact ⟨ret_nat HX2.out, rfl⟩
set_option maxRecDepth 100000 in
set_option maxHeartbeats 1000000 in
theorem rgroups_any : ∀ (f : Nat) (w : World) (n : Nat), f ≤ 9 → n < 128 ^ (f + 1) → n < 18446744073709551616 →
    Calls Try.prog 33 #[.int .u64 (n : Int)] w fun e w' => ∃ v', e = .returned v' ∧ OB w' w.heap.size v' (Rm.grp (f + 1) n) ∧ Below w.heap.size w w' := by
  intro f
  induction f with
  | zero =>
    intro w n _ hn _
    have hs : n < 128 := by simpa using hn
    have hsI : (n : Int) < 128 := by omega
    have HO := Lib.hid (OB.lit w w.heap.size (UInt8.ofNat n) (n : Int) (by rw [← byte_int]; omega) (Nat.le_refl _))
    have HG : Hid (Rm.grp (0 + 1) n = [UInt8.ofNat n]) := Rm.grp_small 0 n hs
    obtain ⟨i0, hi, hz0, hz1, hz2⟩ := info_parts info_u8
    go_enter Try.func33, Try.ntmps33
    go_wp2_with fail
    go_ret
    exact ⟨_, rfl, by rw [HG.out]; exact HO.out, (Below.refl _ _).alloc (Nat.le_refl _) _⟩
  | succ f ih =>
    intro w n hf hn h64
    obtain ⟨i0, hi, hz0, hz1, hz2⟩ := info_parts info_u8
    by_cases hs : n < 128
    · have hsI : (n : Int) < 128 := by omega
      have HO := Lib.hid (OB.lit w w.heap.size (UInt8.ofNat n) (n : Int) (by rw [← byte_int]; omega) (Nat.le_refl _))
      have HG : Hid (Rm.grp (f + 1 + 1) n = [UInt8.ofNat n]) := Rm.grp_small _ n hs
      clear ih
      go_enter Try.func33, Try.ntmps33
      go_wp2_with fail
      go_ret
      exact ⟨_, rfl, by rw [HG.out]; exact HO.out, (Below.refl _ _).alloc (Nat.le_refl _) _⟩
    · have hsI : ¬ (n : Int) < 128 := by omega
      have HO := Lib.hid (OB.lit w w.heap.size (UInt8.ofNat (n % 128 + 128)) ((n : Int) % 128 + 128) (by rw [UInt8.toNat_ofNat']; omega) (Nat.le_refl _))
      have HG : Hid (Rm.grp (f + 1 + 1) n = [UInt8.ofNat (n % 128 + 128)] ++ Rm.grp (f + 1) (n / 128)) := Rm.grp_big _ n hs
      have HI := Lib.hid (ih (w.alloc (.cells #[.int .u8 ((n : Int) % 128 + 128)] 5)) (n / 128) (by omega) (by rw [Nat.pow_succ] at hn; exact Nat.div_lt_of_lt_mul (by omega)) (by omega))
      have HL := Lib.hid (Rm.grp_len (f + 1) (n / 128))
      rw [show ((n / 128 : Nat) : Int) = (n : Int) / 128 from Int.natCast_ediv n 128] at HI
      clear ih hn hs
      go_enter Try.func33, Try.ntmps33
      go_wp2_with fail
      refine HI.out.mono ?_
      rintro e w1 ⟨v1, rfl, ho, hb⟩
      have HO1 := Lib.hid (HO.out.below hb)
      have HS1 := Lib.hid ho.sl
      have HB1 : Hid (Below w.heap.size w w1) := ((Below.refl _ _).alloc (Nat.le_refl _) _).trans (hb.mono (by simp))
      have hbs := HB1.out.size
      have hlen : 1 + (Rm.grp (f + 1) (n / 128)).length ≤ 1000000000 := by have := HL.out; omega
      clear ho hb
      go_wp2_with (at_builtin; refine wpList_append_sl rfl _ _ rfl w.heap.size _ _ 1 _ rfl HO1.out _ (Rm.grp (f + 1) (n / 128)) rfl HS1.out hlen hbs ?_; intro v' w2 hown2 hgrow)
      have HB2 : Hid (Below w.heap.size w w2) := HO1.out.grown HB1.out hgrow (Nat.le_refl _) hbs
      have HO2 : Hid (OB w2 w.heap.size v' (Rm.grp (f + 1 + 1) n)) := by
        rw [HG.out]; unfold OB; rw [List.length_append, List.map_append]; exact hown2
      clear hown2 hgrow hlen
      go_wp2_with fail
      go_ret
      exact ⟨_, rfl, HO2.out, HB2.out⟩
theorem rgrps_any (w : World) (n : Nat) (h : n < 18446744073709551616) :
    Calls Try.prog 33 #[.int .u64 (n : Int)] w fun e w' => ∃ v', e = .returned v' ∧ OB w' w.heap.size v' (Rm.grps n) ∧ Below w.heap.size w w' :=
  rgroups_any 9 w n (Nat.le_refl _) (by omega) h
end Go.Proofs.Ytelpgjaagkojeaa

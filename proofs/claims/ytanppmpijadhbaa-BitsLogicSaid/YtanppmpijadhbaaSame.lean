/- The contracts of Not and Same. Condition: maps in blocks of their own. -/
import Derived.Test.YtanppmpijadhbaaBytes
import Derived.Test.YtanppmpijadhbaaLoad
import Derived.ChangeKeysEq
namespace Go.Proofs.Ytanppmpijadhbaa
open Go.RowKit

theorem not_nil (w : World) (v : Value) (H : Calls Try.prog 49 #[v] w fun e w' => e = .returned (.bool false) ∧ w = w') :
    Calls Try.prog 29 #[v] w fun e w' => e = .returned (.tuple #[.pointer none, .int .i64 1]) ∧ w = w' := by
  have HC := Lib.hid H
  clear H
  go_enter Try.func29, Try.ntmps29
  go_wp2_with fail
  refine HC.out.mono ?_
  rintro e w' ⟨rfl, rfl⟩
  go_wp2_with fail
  go_ret2
  exact ⟨rfl, rfl⟩
/-- The other bits of a map with n bits. -/
def notF (n : Nat) (f : Nat → Bool) : Nat → Bool := fun i => decide (i < n) && !f i
theorem cut_upd {h : Nat → Bool} {k : Nat} {v : Bool} (e : h k = v) : Bm.upd (Bm.cut h k) k v = Bm.cut h (k + 1) := by
  funext j
  unfold Bm.upd Bm.cut
  by_cases e1 : j = k
  · rw [if_pos e1, e1, decide_eq_true (p := k < k + 1) (by omega), e]; rfl
  · rw [if_neg e1]
    by_cases h2 : j < k
    · rw [decide_eq_true h2, decide_eq_true (p := j < k + 1) (by omega)]
    · rw [decide_eq_false h2, decide_eq_false (p := j < k + 1) (by omega)]
set_option maxRecDepth 100000 in
set_option maxHeartbeats 1000000 in
theorem not_ok (w : World) (b n : Nat) (f : Nat → Bool) (M : MapAt w b n f) :
    Calls Try.prog 29 #[.pointer (some ⟨b, 0, none⟩)] w fun e w' => e = .returned (.tuple #[.pointer (some ⟨w.heap.size, 0, none⟩), .int .i64 0]) ∧ MapAt w' w.heap.size n (notF n f) ∧ Below w.heap.size w w' := by
  have hn := M.le
  have h1 := M.num
  have hoff : ∀ i, n ≤ i → notF n f i = false := fun i hi => by unfold notF; rw [decide_eq_false (by omega)]; rfl
  have HOFF := Lib.hid hoff
  have HM := Lib.hid M
  clear M hoff
  go_enter Try.func29, Try.ntmps29
  go_wp2_with fail
  refine (mapMade_any w b n f HM.out).mono ?_
  rintro e w' ⟨rfl, rfl⟩
  go_wp2_with fail
  refine (empty_any _ n hn).mono ?_
  rintro e w1 ⟨rfl, hm, hb⟩
  have hnum := (HM.out.below hb HM.out.lt).num
  have HE := Lib.hid hm
  have HB := Lib.hid hb
  clear hm hb
  go_wp2_with fail
  go_loopw [18] (fun i wr => ∃ k : Nat, k ≤ n ∧ i = .int .i64 k ∧ MapAt wr w.heap.size n (Bm.cut (notF n f) k) ∧ Below w.heap.size w wr) (fun i _ => n - (intOf i).toNat)
  case atStart => exact ⟨0, by omega, rfl, by rw [Bm.cut_zero]; exact HE.out, HB.out⟩
  case round =>
    obtain ⟨k, hk, rfl, M, hB⟩ := hrel
    by_cases hlt : k < n
    · have Mb := HM.out.below hB HM.out.lt
      have HA := Lib.hid (at_any wr b n f k Mb hlt)
      have HP := put_any wr w.heap.size n _ k (!f k) M hlt
      rw [cut_upd (by unfold notF; rw [decide_eq_true hlt]; rfl)] at HP
      have HP2 := Lib.hid HP
      have HB2 := Lib.hid hB
      clear HP M hB Mb HE HB hnum
      go_wp2_with fail
      refine HA.out.mono ?_
      rintro e w' ⟨rfl, rfl⟩
      go_wp2_with fail
      refine HP2.out.mono ?_
      rintro e w2 ⟨rfl, hM2, hG2⟩
      have HM2 := Lib.hid hM2
      have HB3 := Lib.hid (below_grown HB2.out hG2 HB2.out.size (Nat.le_refl _))
      clear hM2 hG2
      go_wp2_with fail
      go_roundw
      case rel => exact ⟨k + 1, by omega, by go_num, HM2.out, HB3.out⟩
      case measure => simp [intOf]; omega
    · obtain rfl : k = n := by omega
      rw [Bm.cut_all HOFF.out (Nat.le_refl _)] at M
      go_wp2_with fail
      go_ret2
      exact ⟨rfl, M, hB⟩
theorem quiet_mine {P : Program} {f : FuncId} {args : Array Value} {w : World} {n : Nat} {v : Value}
    (h : Calls P f args (w.drewN n) fun e w' => e = .returned v ∧ w.drewN n = w') : Calls P f args (w.drewN n) fun e w'' => e = .returned v ∧ ∃ m, w'' = w.drewN m :=
  Calls.quiet_of_same (h.mono fun _ _ ⟨a, b⟩ => ⟨a, b.symm⟩)
theorem same_nil (w : World) (v y : Value) (H : ∀ k, Calls Try.prog 49 #[v] (w.drewN k) fun e w' => e = .returned (.bool false) ∧ w.drewN k = w') :
    Calls Try.prog 21 #[v, y] w fun e w' => e = .returned (.bool false) ∧ ∃ m, w' = w.drewN m := by
  have HC := Lib.hid H
  clear H
  go_enter Try.func21, Try.ntmps21
  go_wp2_with fail
  go_quiet ((go_at_call 49; exact quiet_mine (HC.out _)))
  go_wp2_with fail
  go_ret
  exact ⟨rfl, _, rfl⟩
theorem same_nil2 (w : World) (b n : Nat) (f : Nat → Bool) (M : MapAt w b n f) (y : Value) (H : ∀ k, Calls Try.prog 49 #[y] (w.drewN k) fun e w' => e = .returned (.bool false) ∧ w.drewN k = w') :
    Calls Try.prog 21 #[.pointer (some ⟨b, 0, none⟩), y] w fun e w' => e = .returned (.bool false) ∧ ∃ m, w' = w.drewN m := by
  have HC := Lib.hid H
  have HM := Lib.hid M
  clear H M
  go_enter Try.func21, Try.ntmps21
  go_wp2_with fail
  go_quiet ((go_at_call 49; first | with_reducible exact quiet_mine (mapMade_any _ b n f (HM.out.drewN _)) | with_reducible exact quiet_mine (HC.out _)))
  go_wp2_with fail
  go_ret
  exact ⟨rfl, _, rfl⟩
set_option maxRecDepth 100000 in
theorem same_len (w : World) (b c n m : Nat) (f g : Nat → Bool) (M : MapAt w b n f) (M2 : MapAt w c m g) (hne : n ≠ m) :
    Calls Try.prog 21 #[.pointer (some ⟨b, 0, none⟩), .pointer (some ⟨c, 0, none⟩)] w fun e w' => e = .returned (.bool false) ∧ Below w.heap.size w w' := by
  have h1 := M.num
  have h2 := M2.num
  have hd : ((n : Int) == (m : Int)) = false := by rw [beq_eq_false_iff_ne]; omega
  have HM := Lib.hid M
  have HM2 := Lib.hid M2
  clear M M2
  go_enter Try.func21, Try.ntmps21
  go_wp2_with fail
  go_quiet ((go_at_call 49; first | with_reducible exact quiet_mine (mapMade_any _ b n f (HM.out.drewN _)) | with_reducible exact quiet_mine (mapMade_any _ c m g (HM2.out.drewN _))))
  go_wp2_with fail
  go_ret
  exact ⟨rfl, below_drewN (Below.refl _ _) _⟩
/-- Have both maps the same words? -/
def eqW (f g : Nat → Bool) : Bool := (List.range 64).all fun k => Bm.word f k == Bm.word g k
def warr (f : Nat → Bool) : Array Value := (wcells f).toArray
theorem sizeArr : (Try.prog.info? 64).map (·.size) = some 64 := by kernel_rfl
theorem size64 : (Try.prog.info? 62).map (·.size) = some 1 := by kernel_rfl
theorem uArr : Try.prog.underlying 64 = some (.array 64 62) := by kernel_rfl
theorem loadArr {w : World} {b n : Nat} {f : Nat → Bool} (M : MapAt w b n f) : (loadVar 64 ⟨b, 2, none⟩).run Try.prog w = .ok (.agg (warr f)) w := by
  have hl : (loadCells ⟨b, 2, none⟩ 64).run Try.prog w = .ok (warr f) w :=
    run_loadCells (P := Try.prog) w ⟨b, 2, none⟩ 64 (wcell f) (fun j hj => by
      have hadd : (⟨b, 2, none⟩ : Addr).add j = ⟨b, 2 + j, none⟩ := by unfold Addr.add; split <;> simp_all
      rw [hadd]; exact M.word j hj)
  cases hq : Try.prog.info? 64 with
  | none => have := sizeArr; rw [hq] at this; cases this
  | some i =>
    have hs : i.size = 64 := by have := sizeArr; rw [hq] at this; simpa using this
    have hagg : (isAgg 64).run Try.prog w = .ok true w := by
      unfold isAgg
      rw [Sem.run_bind, run_underlying uArr w]
      simp
    simp [loadVar, Sem.run_bind, hagg, sizeOf, typeInfo, hq, hs, hl]
theorem quiet_load {w : World} {b n : Nat} {f : Nat → Bool} (M : MapAt w b n f) {o : Oper} {a : Act} {K : Act → Prop} (x : Operand) (ho : o.op = .load 64 x) (hx : a.eval x = .pointer (some ⟨b, 2, none⟩)) (h : K (a.put o.dst (.agg (warr f)))) :
    Oper.quiet Try.prog o a (fun w' => ∃ n, w' = w.drewN n) K := by
  refine ⟨_, fun W hW => ?_, h⟩
  obtain ⟨k, rfl⟩ := hW
  unfold Oper.quietAt execOp
  simp only [ho, hx, Instr.loadAt, Instr.sureAddr, Sem.run_bind, Sem.run_pure, Result.andThen_ok, loadArr (M.drewN k)]
  exact ⟨rfl, rfl⟩
theorem warr_at (f : Nat → Bool) (i : Nat) (h : i < 64) (w : World) : (part 62 (warr f) (i * 1)).run Try.prog w = .ok (.int .u64 ((Bm.word f i : Nat) : Int)) w := by
  have e : (warr f)[i]? = some (wcell f i) := by unfold warr; rw [List.getElem?_toArray]; exact wcells_get f i h
  simp [part, isAgg, run_underlying Try.underlying62, e, wcell]
theorem int_beq (a b : Nat) : ((a : Int) == (b : Int)) = (a == b) := by
  rw [Bool.eq_iff_iff]; simp only [beq_iff_eq]; omega
theorem eqArr (d : Nat) (f g : Nat → Bool) (w : World) : (Op.equalIn (d + 2) 64 (.agg (warr f)) (.agg (warr g))).run Try.prog w = .ok (eqW f g) w := by
  have hsz : ∀ w, (sizeOf 62).run Try.prog w = .ok 1 w := fun w => by
    cases hq : Try.prog.info? 62 with
    | none => have := size64; rw [hq] at this; cases this
    | some i =>
      have hs : i.size = 1 := by have := size64; rw [hq] at this; simpa using this
      simp [sizeOf, typeInfo, hq, hs]
  unfold eqW
  rw [List.range_eq_range', Op.equalIn]
  simp only [Sem.run_bind, run_underlying uArr, Result.andThen_ok, hsz, Std.Legacy.Range.forIn_eq_forIn_range', Std.Legacy.Range.size, Nat.sub_zero, Nat.add_sub_cancel, Nat.div_one]
  have hl : ∀ i ∈ List.range' 0 64 1, i < 64 := fun i hi => by simpa using (List.mem_range'_1.1 hi).2
  generalize List.range' 0 64 1 = l at hl ⊢
  induction l with
  | nil => simp
  | cons i l ih =>
    have hi : i < 64 := hl i (by simp)
    have px := warr_at f i hi w
    have py := warr_at g i hi w
    have pe : (Op.equalIn (d + 1) 62 (.int .u64 ((Bm.word f i : Nat) : Int)) (.int .u64 ((Bm.word g i : Nat) : Int))).run Try.prog w = .ok (Bm.word f i == Bm.word g i) w := by
      rw [← int_beq]
      exact run_equalIn_int w d 62 .u64 .u64 _ _ Try.underlying62
    simp only [List.forIn_cons, Sem.run_bind, px, py, pe, Result.andThen_ok, List.all_cons]
    cases hb : (Bm.word f i == Bm.word g i)
    · simp
    · simp only [Bool.not_true, Bool.false_eq_true, if_false, Sem.run_pure, Result.andThen_ok, Bool.true_and]
      exact ih fun j hj => hl j (by simp [hj])
theorem eqlArr (f g : Nat → Bool) (w : World) : (binOp .eql 64 (.agg (warr f)) (.agg (warr g))).run Try.prog w = .ok (.bool (eqW f g)) w := by
  rw [run_eql_struct, eqArr 9998]; rfl
set_option maxRecDepth 100000 in
set_option maxHeartbeats 1000000 in
theorem same_ok (w : World) (b c n : Nat) (f g : Nat → Bool) (M : MapAt w b n f) (M2 : MapAt w c n g) :
    Calls Try.prog 21 #[.pointer (some ⟨b, 0, none⟩), .pointer (some ⟨c, 0, none⟩)] w fun e w' => e = .returned (.bool (eqW f g)) ∧ Below w.heap.size w w' := by
  have h1 := M.num
  have h2 := M2.num
  have heq := eqlArr f g
  have HM := Lib.hid M
  have HM2 := Lib.hid M2
  clear M M2
  go_enter Try.func21, Try.ntmps21
  go_wp2_with fail
  refine wp_region_quiet_lit (by kernel_rfl) (by kernel_rfl) ?_
  iterate 21 (go_big_quiet_step ((go_at_call 49; first | with_reducible exact quiet_mine (mapMade_any _ b n f (HM.out.drewN _)) | with_reducible exact quiet_mine (mapMade_any _ c n g (HM2.out.drewN _)))))
  go_big_quiet_want
  refine quiet_load HM.out _ rfl rfl ?_
  go_simp
  go_big_quiet_on
  iterate 3 (go_big_quiet_step (fail))
  go_big_quiet_want
  refine quiet_load HM2.out _ rfl rfl ?_
  go_simp
  go_big_quiet_on
  repeat (go_big_quiet_step (fail))
  refine wpQuiet_nil ?_
  intro _ hw'
  obtain ⟨nq, hw''⟩ := hw'
  subst hw''
  go_wp2_with fail
  go_ret
  exact ⟨rfl, below_drewN (Below.refl _ _) _⟩
end Go.Proofs.Ytanppmpijadhbaa

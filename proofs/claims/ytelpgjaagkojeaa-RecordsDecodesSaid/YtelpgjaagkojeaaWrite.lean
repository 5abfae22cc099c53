/- The contracts of the writes of package records. Conditions: a value whose list's cells hold what is said of them, a row of the call's own, at most 10^8 bytes. -/
import Derived.Test.YtelpgjaagkojeaaVal
import Derived.Deep.RegionHeldLaw
import Derived.Lib.AppendStr
namespace Go.Proofs.Ytelpgjaagkojeaa
open Go.RowKit

/-- What a write hands back. -/
def WrE (w : World) (base : Nat) (y : List UInt8) (e : Ending) (w' : World) : Prop := ∃ v', e = .returned v' ∧ OB w' base v' y ∧ Bk base w w'
set_option maxRecDepth 100000 in
set_option maxHeartbeats 1000000 in
theorem wrFixed_any (w : World) (base : Nat) (c : Int) (n : Nat) (F1 F2 F3 : Value) (lim : Nat) (b v : Value) (y : List UInt8) (x : Rm.Val) (hv : VA w lim v x) (hb : OB w base b y) (hbase : base ≤ w.heap.size) (hy : y.length ≤ 100000000) (hn : n ≤ 8) :
    Calls Try.prog 38 #[.agg #[.int .u8 c, .int .i64 (n : Int), F1, F2, F3], b, v] w fun e w' => WrE w base (y ++ Rm.low n x.num) e w' := by
  obtain ⟨lv, rfl, hl, h64⟩ := hv
  have hB : Hid (∀ p q, Bk base w ((w.alloc p).alloc q)) := fun p q => ((Bk.refl _ _).alloc hbase _).alloc (by simp; omega) _
  have HA : Hid (∀ p q, Calls Try.prog 48 #[b, .int .u64 (x.num : Int), .int .i64 (n : Int)] ((w.alloc p).alloc q) fun e w' => ∃ v', e = .returned v' ∧ OB w' base v' (y ++ Rm.low n x.num) ∧ Bk base ((w.alloc p).alloc q) w') :=
    fun p q => addFixed_any _ base b y x.num n ((hb.alloc p).alloc q) (by simp; omega) (by omega) h64
  clear hl hb
  go_enter Try.func38, Try.ntmps38
  go_wp2_with fail
  refine (HA.out _ _).mono ?_
  rintro e w1 ⟨v', rfl, ho, hb⟩
  have HO := Lib.hid ho
  have HB := Lib.hid ((hB.out _ _).trans hb)
  clear ho hb
  go_wp2_with fail
  go_ret
  exact ⟨_, rfl, HO.out, HB.out⟩
set_option maxRecDepth 100000 in
set_option maxHeartbeats 1000000 in
theorem wrGroups_any (w : World) (base : Nat) (c : Int) (n : Nat) (F1 F2 F3 : Value) (lim : Nat) (b v : Value) (y : List UInt8) (x : Rm.Val) (hv : VA w lim v x) (hb : OB w base b y) (hbase : base ≤ w.heap.size) (hy : y.length ≤ 100000000) :
    Calls Try.prog 40 #[.agg #[.int .u8 c, .int .i64 (n : Int), F1, F2, F3], b, v] w fun e w' => WrE w base (y ++ Rm.grps x.num) e w' := by
  obtain ⟨lv, rfl, hl, h64⟩ := hv
  have hB : Hid (∀ p q, Bk base w ((w.alloc p).alloc q)) := fun p q => ((Bk.refl _ _).alloc hbase _).alloc (by simp; omega) _
  have HA : Hid (∀ p q, Calls Try.prog 51 #[b, .int .u64 (x.num : Int)] ((w.alloc p).alloc q) fun e w' => ∃ v', e = .returned v' ∧ OB w' base v' (y ++ Rm.grps x.num) ∧ Bk base ((w.alloc p).alloc q) w') :=
    fun p q => addGroups_any _ base b y x.num ((hb.alloc p).alloc q) (by simp; omega) (by omega) h64
  clear hl hb
  go_enter Try.func40, Try.ntmps40
  go_wp2_with fail
  refine (HA.out _ _).mono ?_
  rintro e w1 ⟨v', rfl, ho, hb⟩
  have HO := Lib.hid ho
  have HB := Lib.hid ((hB.out _ _).trans hb)
  clear ho hb
  go_wp2_with fail
  go_ret
  exact ⟨_, rfl, HO.out, HB.out⟩
theorem str_cells (s : List UInt8) : Lib.strCells ⟨s.toArray⟩ = s.map encB := by unfold Lib.strCells; rfl
/-- A string appended to a row of the call's own. -/
theorem wp_append_str {w : World} {o : Oper} {a : Act} {K : Act → World → Prop} {Q : Exit → Act → World → Prop} (s x : Operand) (ho : o.op = .call { callee := .builtin .append, args := #[s, x], argTypes := #[25, 9] })
    (base : Nat) (v : Value) (y l : List UInt8) (hs : a.eval s = v) (hown : OB w base v y) (hx : a.eval x = .string ⟨l.toArray⟩) (hb : y.length + l.length ≤ 1000000000) (hbase : base ≤ w.heap.size)
    (h : ∀ v' w', OB w' base v' (y ++ l) → w.grownBy w' v.ownBlock → K (a.put o.dst v') w') : o.wp Try.prog a w K Q := by
  obtain ⟨i0, hi, hz0, hz1, hz2⟩ := info_parts info_u8
  have hsz : (⟨l.toArray⟩ : ByteArray).size = l.length := by simp [ByteArray.size]
  obtain ⟨v', w', hr, h2, h3, _⟩ := Lib.run_append_own_string (P := Try.prog) w base 25 9 o.type 5 i0 Try.underlying25 Try.underlying9 hi hz0 hz1 hz2 v y.length (y.map encB) hown ⟨l.toArray⟩ (by rw [hsz]; unfold maxLen; omega) (by rw [hsz]; omega) hbase
  unfold Oper.wp execOp
  simp only [ho, resolve, invoke, builtin, Sem.run_bind, Sem.run_pure, Result.andThen_ok, List.map_toArray, List.map_cons, List.map_nil, hs, hx, hr]
  refine h v' w' ?_ h3
  unfold OB
  rw [List.length_append, List.map_append, ← str_cells, ← hsz]
  exact h2
set_option maxRecDepth 100000 in
set_option maxHeartbeats 1000000 in
theorem wrText_any (w : World) (base : Nat) (c : Int) (n : Nat) (F1 F2 F3 : Value) (lim : Nat) (b v : Value) (y : List UInt8) (x : Rm.Val) (hv : VA w lim v x) (hb : OB w base b y) (hbase : base ≤ w.heap.size) (hy : y.length ≤ 100000000) (hs : x.str.length ≤ 400) :
    Calls Try.prog 43 #[.agg #[.int .u8 c, .int .i64 (n : Int), F1, F2, F3], b, v] w fun e w' => WrE w base (y ++ (Rm.grps x.str.length ++ x.str)) e w' := by
  obtain ⟨lv, rfl, hl, h64⟩ := hv
  obtain ⟨num, str, lst⟩ := x
  simp only at hl h64 hs ⊢
  have hB : Hid (∀ p q, Bk base w (((w.alloc p).alloc q).drewN 1)) := fun p q => (((Bk.refl _ _).alloc hbase _).alloc (by simp; omega) _).drewN 1
  have HA : Hid (∀ p q, Calls Try.prog 51 #[b, .int .u64 (str.length : Int)] (((w.alloc p).alloc q).drew) fun e w' => ∃ v', e = .returned v' ∧ OB w' base v' (y ++ Rm.grps str.length) ∧ Bk base (((w.alloc p).alloc q).drew) w') :=
    fun p q => addGroups_any _ base b y str.length (((hb.alloc p).alloc q).drewN 1) (by show base ≤ ((w.alloc p).alloc q).heap.size; simp; omega) (by omega) (by omega)
  clear hl hb
  have HL := Lib.hid (Rm.grps_len str.length)
  go_enter Try.func43, Try.ntmps43
  go_wp2_with fail
  have hw : IntKind.u64.wrap (str.length : Int) = (str.length : Int) := by show (str.length : Int) % 18446744073709551616 = _; omega
  have HK : Hid (∀ p, Blk (((w.alloc p).alloc (.cells #[.int .u64 (num : Int), .string ⟨str.toArray⟩, lv] 49)).drew) (w.heap.size + 1) #[.int .u64 (num : Int), .string ⟨str.toArray⟩, lv] 49) := fun p => by
    have := Blk.new (w.alloc p) #[.int .u64 (num : Int), .string ⟨str.toArray⟩, lv] 49
    rw [show (w.alloc p).heap.size = w.heap.size + 1 by simp] at this
    exact this
  go_region_held_law (fun W => W.cell? ⟨w.heap.size + 1, 1, none⟩ = some (.string ⟨str.toArray⟩)) (first | assumption | (go_simp; done))
    (first
    | (go_at_call 51
       refine (HA.out _ _).mono ?_
       rintro e w1 ⟨v', rfl, ho, hb⟩
       have HO := Lib.hid ho
       have HB := Lib.hid ((hB.out _ _).trans hb)
       have hk := hb.kp _ _ _ (by decide) (HK.out _)
       have hS := hk.cell 1 rfl
       have HK1 := Lib.hid hk
       clear ho hb hk)
    | (rw [if_pos (by simp [Region.wanted])]
       refine wp_append_str _ _ rfl base _ (y ++ Rm.grps str.length) str rfl HO.out rfl (by have := HL.out; rw [List.length_append]; omega) (by have := HB.out.size; omega) ?_
       intro v2 w2 hown hgrow
       have HO2 := Lib.hid hown
       have HB2 := Lib.hid (HO.out.grownK HB.out hgrow (Nat.le_refl _) (by have := HB.out.size; omega))
       have hk := HK1.out.grown hgrow (HO.out.apart HK1.out (by decide))
       have hS := hk.cell 1 rfl
       clear hown hgrow hk
       simp only [List.getElem_toArray, List.getElem_cons_succ, List.getElem_cons_zero]))
  go_wp2_with fail
  go_ret
  exact ⟨_, rfl, by rw [← List.append_assoc]; exact HO2.out, HB2.out⟩
theorem lowL_take (l : List UInt32) (k : Nat) (h : k < l.length) : Rm.lowL (l.take (k + 1)) = Rm.lowL (l.take k) ++ Rm.low 4 l[k].toNat := by
  rw [List.take_succ_eq_append_getElem h, Rm.lowL_snoc]
set_option maxRecDepth 100000 in
set_option maxHeartbeats 1000000 in
theorem wrList_any (w : World) (base : Nat) (c : Int) (F1 F2 F3 : Value) (lim : Nat) (b v : Value) (y : List UInt8) (x : Rm.Val) (hv : VA w lim v x) (hlim : lim ≤ base) (hb : OB w base b y) (hbase : base ≤ w.heap.size) (hy : y.length ≤ 100000000) (hs : x.lst.length ≤ 60) :
    Calls Try.prog 46 #[.agg #[.int .u8 c, .int .i64 4, F1, F2, F3], b, v] w fun e w' => WrE w base (y ++ (Rm.grps x.lst.length ++ Rm.lowL x.lst)) e w' := by
  obtain ⟨lv, rfl, hl, h64⟩ := hv
  obtain ⟨num, str, lst⟩ := x
  simp only at hl h64 hs ⊢
  obtain ⟨A, c0, rfl⟩ := hl.form
  have HV := Lib.hid hl
  obtain ⟨V, hV⟩ : ∃ V, V = Value.slice A lst.length c0 := ⟨_, rfl⟩
  have hB : Hid (∀ p q, Bk base w ((w.alloc p).alloc q)) := fun p q => ((Bk.refl _ _).alloc hbase _).alloc (by simp; omega) _
  have HA : Hid (∀ p q, Calls Try.prog 51 #[b, .int .u64 (lst.length : Int)] (((w.alloc p).alloc q)) fun e w' => ∃ v', e = .returned v' ∧ OB w' base v' (y ++ Rm.grps lst.length) ∧ Bk base (((w.alloc p).alloc q)) w') :=
    fun p q => addGroups_any _ base b y lst.length (((hb.alloc p).alloc q)) (by simp; omega) (by omega) (by omega)
  have HL := Lib.hid (Rm.grps_len lst.length)
  have HK : Hid (∀ p, Blk (((w.alloc p).alloc (.cells #[.int .u64 (num : Int), .string ⟨str.toArray⟩, .slice A lst.length c0] 49))) (w.heap.size + 1) #[.int .u64 (num : Int), .string ⟨str.toArray⟩, .slice A lst.length c0] 49) := fun p => by
    have := Blk.new (w.alloc p) #[.int .u64 (num : Int), .string ⟨str.toArray⟩, .slice A lst.length c0] 49
    rw [show (w.alloc p).heap.size = w.heap.size + 1 by simp] at this
    exact this
  have HK2 : Hid (∀ q, Blk (((w.alloc (.cells #[.int .u8 c, .int .i64 4, F1, F2, F3] 60)).alloc q)) w.heap.size #[.int .u8 c, .int .i64 4, F1, F2, F3] 60) := fun q =>
    (Blk.new w _ _).of_block (((Below.refl _ _).alloc (Nat.le_refl _) _).block _ (by simp))
  clear hl hb hV
  go_enter Try.func46, Try.ntmps46
  go_wp2_with fail
  refine (HA.out _ _).mono ?_
  rintro e w1 ⟨v1, rfl, ho, hb⟩
  have HO1 := Lib.hid ho
  have HB1 := Lib.hid ((hB.out _ _).trans hb)
  have HP1 : Hid (Blk w1 (w.heap.size + 1) #[.int .u64 (num : Int), .string ⟨str.toArray⟩, .slice A lst.length c0] 49) := hb.kp _ _ _ (by decide) (HK.out _)
  have HQ1 : Hid (Blk w1 w.heap.size #[.int .u8 c, .int .i64 4, F1, F2, F3] 60) := hb.kp _ _ _ (by decide) (HK2.out _)
  have hcell := HP1.out.cell 2 rfl
  clear ho hb HA HK HK2
  go_wp2_with fail
  go_loopw [1, 18] (fun u i wr => ∃ k : Nat, k ≤ lst.length ∧ i = .int .i64 k ∧ Hid (OB wr base u (y ++ (Rm.grps lst.length ++ Rm.lowL (lst.take k)))) ∧ Hid (Bk base w wr) ∧ Hid (Blk wr w.heap.size #[.int .u8 c, .int .i64 4, F1, F2, F3] 60)) (fun _ i _ => lst.length - (intOf i).toNat)
  case atStart => exact ⟨0, by omega, rfl, by rw [List.take_zero]; simpa [Hid, Rm.lowL] using HO1.out, HB1.out, HQ1.out⟩
  case round =>
    obtain ⟨k, hk, rfl, HO, HB, HQ⟩ := hrel
    by_cases hlt : k < lst.length
    · have hltI : (k : Int) < (lst.length : Int) := by omega
      obtain ⟨p, off, hA, hp, hc⟩ := HV.out.at (by omega)
      subst hA
      have hcell2 := (HB.out.bl.cell (p := ⟨p, off + k, none⟩) (show p < base by omega)).trans (hc k hlt)
      unfold enc32 at hcell2
      have hc32 := lst[k].toNat_lt
      have HN := Lib.hid (lowL_take lst k hlt)
      obtain ⟨z, hz⟩ : ∃ z, z = lst[k].toNat := ⟨_, rfl⟩
      rw [← hz] at hcell2 HN hc32
      have hq := HQ.out.cell 1 rfl
      have HLL : (y ++ (Rm.grps lst.length ++ Rm.lowL (lst.take k))).length + 4 ≤ 1000000000 := by
        have := HL.out.2
        rw [List.length_append, List.length_append, Rm.lowL_len, List.length_take]; omega
      have HA := Lib.hid (addFixed_any wr base _ _ z 4 HO.out (by have := HB.out.size; omega) HLL (by omega))
      clear hc hz HLL hcell
      go_wp2_with fail
      refine HA.out.mono ?_
      rintro e w2 ⟨v2, rfl, ho, hb⟩
      have HO2 : Hid (OB w2 base v2 (y ++ (Rm.grps lst.length ++ Rm.lowL (lst.take (k + 1))))) := by
        rw [HN.out]; rw [List.append_assoc, List.append_assoc] at ho; exact ho
      have HB2 := Lib.hid (HB.out.trans hb)
      have HQ2 := Lib.hid (hb.kp _ _ _ (by decide) HQ.out)
      clear ho hb HA
      go_wp2_with fail
      go_roundw
      case rel => exact ⟨k + 1, by omega, by go_num, HO2.out, HB2.out, HQ2.out⟩
      case measure => simp [intOf]; omega
    · obtain rfl : k = lst.length := by omega
      have hltI : ¬ ((lst.length : Int) < (lst.length : Int)) := by omega
      have HO2 := HO
      rw [List.take_length] at HO2
      go_wp2_with fail
      go_ret
      exact ⟨_, rfl, HO2.out, HB.out⟩
/-- The write of a letter. -/
theorem wr_any (w : World) (base : Nat) (c : UInt8) (hc : Rm.isK c = true) (lim : Nat) (b v : Value) (y : List UInt8) (x : Rm.Val) (hv : VA w lim v x) (hlim : lim ≤ base) (hb : OB w base b y) (hbase : base ≤ w.heap.size) (hy : y.length ≤ 100000000) (he : Rm.valE c x = 0) :
    Calls Try.prog (wrF c) #[kindV c, b, v] w fun e w' => WrE w base (y ++ Rm.valB c x) e w' := by
  have h64 : x.num < 18446744073709551616 := by obtain ⟨_, _, _, h⟩ := hv; exact h
  have hs := Rm.valE_ok hc he (by omega)
  rcases Rm.isK_cases hc with rfl | rfl | rfl | rfl | rfl | rfl | rfl
  · exact wrFixed_any w base 98 1 _ _ _ lim b v y x hv hb hbase hy (by omega)
  · exact wrFixed_any w base 119 2 _ _ _ lim b v y x hv hb hbase hy (by omega)
  · exact wrFixed_any w base 100 4 _ _ _ lim b v y x hv hb hbase hy (by omega)
  · exact wrFixed_any w base 113 8 _ _ _ lim b v y x hv hb hbase hy (by omega)
  · exact wrGroups_any w base 118 8 _ _ _ lim b v y x hv hb hbase hy
  · exact wrText_any w base 115 1 _ _ _ lim b v y x hv hb hbase hy (by
      simp only [Rm.valE, if_true] at he
      split at he
      · simp at he
      · split at he
        · simp at he
        · omega)
  · exact wrList_any w base 108 _ _ _ lim b v y x hv hlim hb hbase hy (by
      simp only [Rm.valE] at he
      rw [if_neg (by decide), if_pos trivial] at he
      split at he
      · simp at he
      · split at he
        · simp at he
        · omega)
end Go.Proofs.Ytelpgjaagkojeaa

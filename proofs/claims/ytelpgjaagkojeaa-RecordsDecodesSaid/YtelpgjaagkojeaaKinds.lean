/- The contracts of kindsOf of package records, of form and width of the reference. Condition: a string of at most 10^9 bytes. -/
import Derived.Test.YtelpgjaagkojeaaTable
import Derived.Lib.ConvBytes
namespace Go.Proofs.Ytelpgjaagkojeaa
open Go.RowKit

theorem info_kind : (Try.prog.info? 60).map (fun i => (i.zero, i.size, i.bytes)) = some (some (.agg #[.int .u8 0, .int .i64 0, .nilFunc, .nilFunc, .nilFunc]), 5, 40) := by kernel_rfl
/-- A slice of kinds. -/
def KS (w : World) (lo lim : Nat) (v : Value) (fs : List UInt8) : Prop :=
  (fs = [] ∧ ∃ A c, v = .slice A 0 c) ∨ ∃ b off c, v = .slice (some ⟨b, off, none⟩) fs.length c ∧ lo ≤ b ∧ b < lim ∧ ∀ i (h : i < fs.length), KAt w b (off + i * 5) fs[i]
/-- What kindsOf hands back. -/
def KoE (w : World) (fs : List UInt8) (e : Ending) (w' : World) : Prop :=
  ∃ v, e = .returned (.tuple #[v, .int .i64 ((Rm.formE fs : Nat) : Int)]) ∧ (Rm.formE fs = 0 → KS w' w.heap.size w'.heap.size v fs) ∧ Below w.heap.size w w'
/-- The bytes of a string in a row of their own. -/
theorem str_bytes (w : World) (s : List UInt8) : ∃ cp w3, (convert 9 25 (.string ⟨s.toArray⟩)).run Try.prog w = .ok (.slice (some ⟨w.heap.size, 0, none⟩) s.length cp) w3 ∧ Below w.heap.size w w3 ∧ w.heap.size < w3.heap.size ∧ ∀ i (h : i < s.length), w3.cell? ⟨w.heap.size, i, none⟩ = some (encB s[i]) := by
  have hsz : (⟨s.toArray⟩ : ByteArray).size = s.length := by simp [ByteArray.size]
  have h := Lib.run_convert_string_bytes (P := Try.prog) w 9 25 5 ⟨s.toArray⟩ Try.underlying9 Try.underlying25 Try.underlying5
  rw [hsz] at h
  refine ⟨_, _, h, ⟨rfl, rfl, rfl, by rw [Lib.bytesWorld_size]; omega, fun k hk => Lib.bytesWorld_at_old _ _ _ k hk⟩, by rw [Lib.bytesWorld_size]; omega, fun i hi => ?_⟩
  rw [Lib.bytesWorld_cell _ _ _ i (by rw [hsz]; exact hi)]
  simp [encB, List.getD_eq_getElem?_getD, hi]
theorem wpList_append_kind {w : World} {ops : Array Oper} {rest : List Oper} {o : Oper} {a : Act} {Q : Exit → Act → World → Prop} (hgd : o.guard = none) (s x : Operand) (ho : o.op = .call { callee := .builtin .append, args := #[s, x], argTypes := #[53, 53] })
    (base : Nat) (v : Value) (fs : List UInt8) (hs : a.eval s = v) (hown : w.ownsRow base 60 5 v fs.length (fs.flatMap kindCs)) (c : UInt8) (g : Nat) (hx : a.eval x = .slice (some ⟨g, 0, none⟩) 1 1) (hc : Blk w g (kindCs c).toArray 60) (hb : fs.length ≤ 1000) (hbase : base ≤ w.heap.size)
    (h : ∀ v' w', w'.ownsRow base 60 5 v' (fs ++ [c]).length ((fs ++ [c]).flatMap kindCs) → w.grownBy w' v.ownBlock → wpList Try.prog ops Q rest (a.put o.dst v') w') : wpList Try.prog ops Q (o :: rest) a w := by
  obtain ⟨i0, hi, hz0, hz1, hz2⟩ := info_parts info_kind
  refine wpList_append_own _ hgd s x 53 ho base 60 i0 _ 5 40 Try.underlying53 hi hz0 hz1 hz2 rfl (by decide) v fs.length (fs.flatMap kindCs) hs hown ⟨g, 0, none⟩ 1 1 (kindCs c) hx rfl (fun j u hu => ?_) (fun u hu => ?_) (by unfold maxLen; omega) (by omega) hbase (fun v' w' h1 h2 _ => h v' w' ?_ h2)
  · have := hc.cell j (v := u) (by rw [List.getElem?_toArray]; exact hu)
    have hadd : (⟨g, 0, none⟩ : Addr).add j = ⟨g, j, none⟩ := by unfold Addr.add; split <;> simp_all
    rw [hadd]; exact this
  · simp only [kindCs, List.mem_cons, List.not_mem_nil, or_false] at hu
    rcases hu with rfl | rfl | rfl | rfl | rfl <;> rfl
  · rw [List.length_append, List.flatMap_append]
    simpa using h1
theorem flat_len (fs : List UInt8) : (fs.flatMap kindCs).length = fs.length * 5 := by
  induction fs with
  | nil => rfl
  | cons f fs ih => rw [List.flatMap_cons, List.length_append, ih]; simp [kindCs]; omega
theorem flat_get (fs : List UInt8) : ∀ (i : Nat) (h : i < fs.length) (j : Nat) (hj : j < 5), (fs.flatMap kindCs)[i * 5 + j]? = some ((kindCs fs[i])[j]'hj) := by
  induction fs with
  | nil => intro i h; simp at h
  | cons f fs ih =>
    intro i h j hj
    rw [List.flatMap_cons]
    cases i with
    | zero =>
      rw [List.getElem?_append_left (by simp [kindCs]; omega)]
      simp only [Nat.zero_mul, Nat.zero_add, List.getElem_cons_zero]
      exact List.getElem?_eq_getElem _
    | succ i =>
      have hl : (kindCs f).length = 5 := rfl
      rw [List.getElem?_append_right (by rw [hl]; omega), hl, show (i + 1) * 5 + j - 5 = i * 5 + j by omega]
      exact ih i (by simpa using h) j hj
theorem KS.of_own {w : World} {base : Nat} {v : Value} {fs : List UInt8} {lo : Nat} (h : w.ownsRow base 60 5 v fs.length (fs.flatMap kindCs)) (hlo : lo ≤ base) : KS w lo w.heap.size v fs := by
  rcases Go.Joins.ownsRow_forms h with ⟨rfl, h0⟩ | ⟨g, cap, rfl⟩
  · exact .inl ⟨List.eq_nil_of_length_eq_zero h0, none, 0, rfl⟩
  · refine .inr ⟨g, 0, cap, rfl, Nat.le_trans hlo (h.lt g rfl).1, (h.lt g rfl).2, fun i hi => ?_⟩
    have hc := fun j (hj : j < 5) => (h.cellAt (i * 5 + j) (by omega)).trans (flat_get fs i hi j hj)
    rw [Nat.zero_add]
    exact ⟨hc 0 (by omega), hc 1 (by omega), hc 2 (by omega), hc 3 (by omega), hc 4 (by omega)⟩
set_option maxRecDepth 100000 in
set_option maxHeartbeats 1000000 in
theorem kindsOf_any (w : World) (fs : List UInt8) (hf : fs.length ≤ 1000000000) :
    Calls Try.prog 23 #[.string ⟨fs.toArray⟩] w fun e w' => KoE w fs e w' := by
  by_cases hlong : 64 < fs.length
  · have HE : Hid (Rm.formE fs = 3) := by unfold Rm.formE; exact if_pos hlong
    have hI : (64 : Int) < (fs.length : Int) := by omega
    go_enter Try.func23, Try.ntmps23
    go_wp2_with fail
    go_ret2
    exact ⟨_, by rw [HE.out]; rfl, fun h => by rw [HE.out] at h; simp at h, Below.refl _ _⟩
  · have hI : ¬ (64 : Int) < (fs.length : Int) := by omega
    go_enter Try.func23, Try.ntmps23
    go_wp2_with fail
    refine (table_any w).mono ?_
    rintro e w1 ⟨rfl, hb⟩
    have HB1 := Lib.hid hb
    clear hb
    go_wp2_with (refine wpList_store_row rfl 70 (.tmp 4) (.tmp 12) rfl w1.heap.size tabCs rfl rfl 70 _ (Blk.new w1 _ _) (by rw [iTab]; rfl) rfl tabCs_one ?_)
    have HT2 := Lib.hid (setRow_blk (Blk.new w1 #[.int .u8 0, .int .i64 0, .nilFunc, .nilFunc, .nilFunc, .int .u8 0, .int .i64 0, .nilFunc, .nilFunc, .nilFunc, .int .u8 0, .int .i64 0, .nilFunc, .nilFunc, .nilFunc, .int .u8 0, .int .i64 0, .nilFunc, .nilFunc, .nilFunc, .int .u8 0, .int .i64 0, .nilFunc, .nilFunc, .nilFunc, .int .u8 0, .int .i64 0, .nilFunc, .nilFunc, .nilFunc, .int .u8 0, .int .i64 0, .nilFunc, .nilFunc, .nilFunc] 70) tabCs)
    have HB2 := Lib.hid (below_setRow (cs := tabCs) (HB1.out.alloc HB1.out.size (.cells #[.int .u8 0, .int .i64 0, .nilFunc, .nilFunc, .nilFunc, .int .u8 0, .int .i64 0, .nilFunc, .nilFunc, .nilFunc, .int .u8 0, .int .i64 0, .nilFunc, .nilFunc, .nilFunc, .int .u8 0, .int .i64 0, .nilFunc, .nilFunc, .nilFunc, .int .u8 0, .int .i64 0, .nilFunc, .nilFunc, .nilFunc, .int .u8 0, .int .i64 0, .nilFunc, .nilFunc, .nilFunc, .int .u8 0, .int .i64 0, .nilFunc, .nilFunc, .nilFunc] 70)) HB1.out.size)
    generalize World.setRow (w1.alloc (.cells #[.int .u8 0, .int .i64 0, .nilFunc, .nilFunc, .nilFunc, .int .u8 0, .int .i64 0, .nilFunc, .nilFunc, .nilFunc, .int .u8 0, .int .i64 0, .nilFunc, .nilFunc, .nilFunc, .int .u8 0, .int .i64 0, .nilFunc, .nilFunc, .nilFunc, .int .u8 0, .int .i64 0, .nilFunc, .nilFunc, .nilFunc, .int .u8 0, .int .i64 0, .nilFunc, .nilFunc, .nilFunc, .int .u8 0, .int .i64 0, .nilFunc, .nilFunc, .nilFunc] 70)) w1.heap.size tabCs = w2 at HT2 HB2 ⊢
    obtain ⟨cp, w3, hcv, hb3, hs3, hc3⟩ := str_bytes w2 fs
    have HC3 := Lib.hid hc3
    have HT3 : Hid (Blk w3 w1.heap.size tabCs 70) := HT2.out.below hb3 HT2.out.lt
    have HB3 : Hid (Below w.heap.size w w3) := HB2.out.trans (hb3.mono HB2.out.size)
    have hgl : w1.heap.size < w3.heap.size := HT3.out.lt
    have hkind := info_parts info_kind
    obtain ⟨i0, hi, hz0, hz1, hz2⟩ := hkind
    clear hb3 hc3
    rw [hcv]
    clear hcv
    go_wp2_with fail
    go_loopw [5, 16] (fun v i wr => ∃ k : Nat, k ≤ fs.length ∧ i = .int .i64 k ∧ Hid (wr.ownsRow w3.heap.size 60 5 v (fs.take k).length ((fs.take k).flatMap kindCs)) ∧ Hid (Below w3.heap.size w3 wr) ∧ Hid ((fs.take k).all Rm.isK = true)) (fun _ i _ => fs.length - (intOf i).toNat)
    case atStart => exact ⟨0, by omega, rfl, World.ownsRow_nil _ _ _ _, Below.refl _ _, rfl⟩
    case round =>
      obtain ⟨k, hk, rfl, HO, HB, HA⟩ := hrel
      have hwb : Hid (Below w.heap.size w wr) := HB3.out.trans (HB.out.mono HB3.out.size)
      by_cases hlt : k < fs.length
      · have hltI : (k : Int) < (fs.length : Int) := by omega
        have hcell := (HB.out.cell (p := ⟨w2.heap.size, k, none⟩) hs3).trans (HC3.out k hlt)
        unfold encB at hcell
        obtain ⟨c, hc⟩ : ∃ c, c = fs[k] := ⟨_, rfl⟩
        rw [← hc] at hcell
        have HX := Lib.hid hc
        clear hc
        obtain ⟨z, hz⟩ : ∃ z : Int, z = (c.toNat : Int) := ⟨_, rfl⟩
        rw [← hz] at hcell
        have hI0 := indexFunc_any (wr.alloc (.cells #[.int .u8 z] 5)) w1.heap.size wr.heap.size c ((HT3.out.below HB.out HT3.out.lt).below ((Below.refl wr.heap.size wr).alloc (Nat.le_refl _) _) (by have := HB.out.size; omega)) (by rw [← hz]; exact cell_new1 _ _ _)
        have HI := Lib.hid hI0
        have HZ := Lib.hid hz
        have hbsz := HB.out.size
        clear hI0 hz
        go_wp2_with fail
        refine HI.out.mono ?_
        rintro e w4 ⟨hix, hb⟩
        have HB4 : Hid (Below wr.heap.size wr w4) := ((Below.refl _ _).alloc (Nat.le_refl _) _).trans (hb.mono (by simp))
        clear hb HI
        have hs4 := HB4.out.size
        rcases hix with ⟨hk7, i, hi7, rfl, hci⟩ | ⟨hno, rfl⟩
        · obtain ⟨g0, g1, g2, g3, g4⟩ : KAt w4 w1.heap.size (i * 5) c := by
            have h1 : Below w3.heap.size w3 w4 := HB.out.trans (HB4.out.mono HB.out.size)
            have := (KAt.tab HT3.out i hi7).below h1 HT3.out.lt
            rwa [hci] at this
          have hn0 : ¬ (i : Int) < 0 := by omega
          have hn7 : (i : Int) < 7 := by omega
          have hl : (fs.take k).length ≤ 1000 := by rw [List.length_take]; omega
          have hO4 : w4.ownsRow w3.heap.size 60 5 u5 (fs.take k).length ((fs.take k).flatMap kindCs) := own_below HO.out HB4.out
          have HO4 := Lib.hid hO4
          have HCI := Lib.hid hci
          have HK7 := Lib.hid hk7
          clear hci hk7 hO4
          go_wp2_with (at_builtin; refine wpList_append_kind rfl _ _ rfl w3.heap.size _ (fs.take k) rfl (World.ownsRow.alloc HO4.out _) c w4.heap.size rfl (Blk.new w4 (kindCs c).toArray _) hl (by simp; omega) ?_; intro v' w5 hown5 hgrow)
          have HB5 : Hid (Below w3.heap.size w3 w5) := ((HB.out.trans (HB4.out.mono HB.out.size)).alloc (by omega) _).grown hgrow (by simp; omega) (fun g hg => (World.ownsRow.lt HO4.out g hg).1)
          have HO5 : Hid (w5.ownsRow w3.heap.size 60 5 v' (fs.take (k + 1)).length ((fs.take (k + 1)).flatMap kindCs)) := by
            rw [Rm.take_next fs k hlt, ← HX.out]; exact hown5
          have HA5 : Hid ((fs.take (k + 1)).all Rm.isK = true) := by
            show (fs.take (k + 1)).all Rm.isK = true
            rw [Rm.take_next fs k hlt, List.all_append, HA.out, ← HX.out]
            simp [HK7.out]
          clear hown5 hgrow g0 g1 g2 g3 g4
          go_wp2_with fail
          go_roundw
          case rel => exact ⟨k + 1, by omega, by go_num, HO5.out, HB5.out, HA5.out⟩
          case measure => simp [intOf]; omega
        · have HE : Hid (Rm.formE fs = 2) := by
            show Rm.formE fs = 2
            unfold Rm.formE
            rw [if_neg hlong, if_neg]
            rw [List.all_eq_true]
            intro h
            have := h fs[k] (List.getElem_mem _)
            rw [← HX.out, hno] at this
            simp at this
          have HBE : Hid (Below w.heap.size w w4) := hwb.out.trans (HB4.out.mono hwb.out.size)
          clear hno
          go_wp2_with fail
          go_ret2
          exact ⟨_, by rw [HE.out]; rfl, fun h => by rw [HE.out] at h; simp at h, HBE.out⟩
      · obtain rfl : k = fs.length := by omega
        have hltI : ¬ ((fs.length : Int) < (fs.length : Int)) := by omega
        have HO2 := HO
        have HA2 := HA
        rw [List.take_length] at HO2 HA2
        have HE : Hid (Rm.formE fs = 0) := Rm.formE_ok (by omega) HA2.out
        go_wp2_with fail
        go_ret2
        exact ⟨_, by rw [HE.out]; rfl, fun _ => KS.of_own HO2.out HB3.out.size, hwb.out⟩
end Go.Proofs.Ytelpgjaagkojeaa

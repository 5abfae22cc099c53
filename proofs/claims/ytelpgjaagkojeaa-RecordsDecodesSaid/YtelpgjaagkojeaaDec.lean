/- The contracts of Decode and Whole of package records. Conditions: a slice that holds the bytes, a string of at most 10^9 bytes. -/
import Derived.Test.YtelpgjaagkojeaaEnc
import Derived.WalkMore
import Derived.ScopeJumps
namespace Go.Proofs.Ytelpgjaagkojeaa
open Go.RowKit

/-- The cells of a value. -/
def vC (p : Rm.Val × Value) : List Value := [.int .u64 (p.1.num : Int), .string ⟨p.1.str.toArray⟩, p.2]
theorem info_rc : (Try.prog.info? 49).map (fun i => (i.zero, i.size, i.bytes)) = some (some (.agg #[.int .u64 0, .string ⟨#[]⟩, .slice none 0 0]), 3, 48) := by kernel_rfl
/-- A row of values of the call's own. -/
def OV (w : World) (base : Nat) (v : Value) (l : List Rm.Val) : Prop :=
  ∃ P : List (Rm.Val × Value), P.map (·.1) = l ∧ w.ownsRow base 49 3 v P.length (P.flatMap vC) ∧ ∀ p ∈ P, OL w base p.2 p.1.lst ∧ p.1.num < 18446744073709551616
theorem own_lt {w w' : World} {base p : Nat} {e : TypeId} {size n : Nat} {v : Value} {xs : List Value} (h : w.ownsRow base e size v n xs) (hg : w.grownBy w' (some p)) (hp : p < base) : w'.ownsRow base e size v n xs :=
  World.ownsRow.kept h hg (by
    cases hv : v.ownBlock with
    | none => exact .inl rfl
    | some g => exact .inr (fun e => by have := (World.ownsRow.lt h g hv).1; have := Option.some.inj e; omega))
theorem OV.nil (w : World) (base : Nat) : OV w base (.slice none 0 0) [] := ⟨[], rfl, World.ownsRow_nil _ _ _ _, fun p hp => by simp at hp⟩
theorem OV.kept {w w' : World} {base p : Nat} {v : Value} {l : List Rm.Val} (h : OV w base v l) (hg : w.grownBy w' (some p)) (hp : p < base) : OV w' base v l := by
  obtain ⟨P, h1, h2, h3⟩ := h
  exact ⟨P, h1, own_lt h2 hg hp, fun q hq => ⟨own_lt (h3 q hq).1 hg hp, (h3 q hq).2⟩⟩
theorem OV.below {w w' : World} {base : Nat} {v : Value} {l : List Rm.Val} (h : OV w base v l) (hb : Below w.heap.size w w') : OV w' base v l := by
  obtain ⟨P, h1, h2, h3⟩ := h
  exact ⟨P, h1, own_below h2 hb, fun q hq => ⟨own_below (h3 q hq).1 hb, (h3 q hq).2⟩⟩
theorem flatV_get (P : List (Rm.Val × Value)) : ∀ (i : Nat) (h : i < P.length) (j : Nat) (hj : j < 3), (P.flatMap vC)[i * 3 + j]? = some ((vC P[i])[j]'hj) := by
  induction P with
  | nil => intro i h; simp at h
  | cons f fs ih =>
    intro i h j hj
    rw [List.flatMap_cons]
    cases i with
    | zero =>
      rw [List.getElem?_append_left (by simp [vC]; omega)]
      simp only [Nat.zero_mul, Nat.zero_add, List.getElem_cons_zero]
      exact List.getElem?_eq_getElem _
    | succ i =>
      have hl : (vC f).length = 3 := rfl
      rw [List.getElem?_append_right (by rw [hl]; omega), hl, show (i + 1) * 3 + j - 3 = i * 3 + j by omega]
      exact ih i (by simpa using h) j hj
theorem OV.vl {w : World} {base : Nat} {v : Value} {l : List Rm.Val} (h : OV w base v l) : VL w w.heap.size v l := by
  obtain ⟨P, rfl, h2, h3⟩ := h
  rcases Go.Joins.ownsRow_forms h2 with ⟨rfl, h0⟩ | ⟨g, cap, rfl⟩
  · have : P = [] := List.eq_nil_of_length_eq_zero h0
    subst this
    exact .inl ⟨rfl, none, 0, rfl⟩
  · refine .inr ⟨g, 0, cap, by rw [List.length_map], (World.ownsRow.lt h2 g rfl).2, fun i hi => ?_⟩
    rw [List.length_map] at hi
    have hc := fun j (hj : j < 3) => (World.ownsRow.cellAt h2 (i * 3 + j) (by omega)).trans (flatV_get P i hi j hj)
    obtain ⟨a1, a2⟩ := h3 P[i] (List.getElem_mem _)
    rw [Nat.zero_add, List.getElem_map]
    exact ⟨P[i].2, hc 0 (by omega), hc 1 (by omega), hc 2 (by omega), SL.of_own rfl a1, a2⟩
theorem OV.len {w : World} {base : Nat} {v : Value} {l : List Rm.Val} (h : OV w base v l) : ∃ A c, v = .slice A l.length c := h.vl.form
/-- A value appended to a row of the call's own. -/
theorem wpList_append_val {w : World} {ops : Array Oper} {rest : List Oper} {o : Oper} {a : Act} {Q : Exit → Act → World → Prop} (hgd : o.guard = none) (s x : Operand) (ho : o.op = .call { callee := .builtin .append, args := #[s, x], argTypes := #[22, 22] })
    (base : Nat) (v : Value) (l : List Rm.Val) (hs : a.eval s = v) (hown : OV w base v l) (z : Rm.Val) (lv : Value) (hz : OL w base lv z.lst) (hzn : z.num < 18446744073709551616) (g : Nat) (hx : a.eval x = .slice (some ⟨g, 0, none⟩) 1 1) (hc : Blk w g #[.int .u64 (z.num : Int), .string ⟨z.str.toArray⟩, lv] 49) (hb : l.length ≤ 1000) (hbase : base ≤ w.heap.size)
    (h : ∀ v' w', OV w' base v' (l ++ [z]) → w.grownBy w' v.ownBlock → (∀ r, v.ownBlock = some r → base ≤ r) → wpList Try.prog ops Q rest (a.put o.dst v') w') : wpList Try.prog ops Q (o :: rest) a w := by
  obtain ⟨i0, hi, hz0, hz1, hz2⟩ := info_parts info_rc
  obtain ⟨P, rfl, h2, h3⟩ := hown
  rw [List.length_map] at hb
  refine wpList_append_own _ hgd s x 22 ho base 49 i0 _ 3 48 Try.underlying22 hi hz0 hz1 hz2 rfl (by decide) v P.length (P.flatMap vC) hs h2 ⟨g, 0, none⟩ 1 1 (vC (z, lv)) hx rfl (fun j u hu => ?_) (fun u hu => ?_) (by unfold maxLen; omega) (by omega) hbase (fun v' w' g1 g2 _ => h v' w' ⟨P ++ [(z, lv)], by simp, ?_, fun q hq => ?_⟩ g2 (fun r hr => (World.ownsRow.lt h2 r hr).1))
  · have := hc.cell j (v := u) (by rw [List.getElem?_toArray]; exact hu)
    have hadd : (⟨g, 0, none⟩ : Addr).add j = ⟨g, j, none⟩ := by unfold Addr.add; split <;> simp_all
    rw [hadd]; exact this
  · simp only [vC, List.mem_cons, List.not_mem_nil, or_false] at hu
    rcases hu with rfl | rfl | rfl
    · rfl
    · rfl
    · exact OL.one hz
  · rw [List.length_append, List.flatMap_append]
    simpa using g1
  · have key : ∀ {lv : Value} {ls : List UInt32}, OL w base lv ls → OL w' base lv ls := fun {lv ls} ho => by
      refine World.ownsRow.kept ho g2 ?_
      rcases h2.2 with ⟨rfl, _⟩ | ⟨gg, cap, cur, rfl, _, hg, _⟩
      · cases hv : lv.ownBlock with
        | none => exact .inl rfl
        | some g => exact .inr (by simp [Value.ownBlock])
      · exact .inr (fun e => ho.apart (b := gg) (show Blk w gg cur 49 from hg) (by decide) (by rw [e]; rfl))
    rcases List.mem_append.1 hq with hq | hq
    · exact ⟨key (h3 q hq).1, (h3 q hq).2⟩
    · obtain rfl := List.mem_singleton.1 hq
      exact ⟨key hz, hzn⟩
/-- What Decode hands back. -/
def DeE (w : World) (fs y : List UInt8) (e : Ending) (w' : World) : Prop :=
  ∃ v, e = .returned (.tuple #[v, .int .i64 (((Rm.decR fs y).2.1 : Nat) : Int), .int .i64 (((Rm.decR fs y).2.2 : Nat) : Int)]) ∧ VL w' w'.heap.size v (Rm.decR fs y).1 ∧ Below w.heap.size w w'
theorem VL.nil (w : World) (lim : Nat) : VL w lim (.slice none 0 0) [] := .inl ⟨rfl, none, 0, rfl⟩
theorem DeE.bad {w w' : World} {fs y : List UInt8} {e : Ending} {n : Nat} (h : Rm.decR fs y = ([], 0, n)) (he : e = .returned (.tuple #[.slice none 0 0, .int .i64 0, .int .i64 (n : Int)])) (hb : Below w.heap.size w w') : DeE w fs y e w' := by
  unfold DeE; rw [h]; exact ⟨_, he, VL.nil _ _, hb⟩
theorem RB.new (w : World) {v : Value} {y : List UInt8} (h : SL encB w w.heap.size v y) : RB (w.alloc (.cells #[v] 64)) w.heap.size w.heap.size y :=
  ⟨v, Blk.new _ _ _, h.below ((Below.refl _ _).alloc (Nat.le_refl _) _) (Nat.le_refl _)⟩
theorem RB.next {w w' : World} {p lim : Nat} {y : List UInt8} (h : RB w p lim y) (hb : Below w.heap.size w w') (hl : lim ≤ w.heap.size) : RB w' p lim y := by
  obtain ⟨rv, h1, h2⟩ := h
  exact ⟨rv, h1.below hb h1.lt, h2.below hb hl⟩
set_option maxRecDepth 100000 in
set_option maxHeartbeats 4000000 in
theorem decode_any (w : World) (v : Value) (fs y : List UInt8) (hv : SL encB w w.heap.size v y) (hf : fs.length ≤ 1000000000) (hy : y.length ≤ 9223372036854775807) :
    Calls Try.prog 16 #[.string ⟨fs.toArray⟩, v] w fun e w' => DeE w fs y e w' := by
  obtain ⟨A, c0, rfl⟩ := hv.form
  have HR0 := Lib.hid (RB.new w hv)
  clear hv
  go_enter Try.func16, Try.ntmps16
  go_wp2_with fail
  refine wp_scope_jumps 0 (fun a' w' => ∃ (n : Nat) (u0 u1 u2 u3 u4 u5 u7 u8 u9 u10 u11 u12 u13 u14 u15 u16 u17 u18 u19 u20 u21 u22 u23 u24 u25 u26 u27 u28 u29 u30 u31 u32 u33 u34 u35 u36 u37 u38 u39 u40 u41 u42 u43 u44 u45 u46 u47 u48 u49 u50 u51 u52 : Value), a' = { tmps := #[u0, u1, u2, u3, u4, u5, .int .i64 (n : Int), u7, u8, u9, u10, u11, u12, u13, u14, u15, u16, u17, u18, u19, u20, u21, u22, u23, u24, u25, u26, u27, u28, u29, u30, u31, u32, u33, u34, u35, u36, u37, u38, u39, u40, u41, u42, u43, u44, u45, u46, u47, u48, u49, u50, u51, u52], defers := [] } ∧ Hid (Rm.decR fs y = ([], 0, n)) ∧ Hid (Below w.heap.size w w')) (fun _ _ => 0) rfl ?_ ?_
  case refine_2 =>
    rintro a' w' ⟨n, u0, u1, u2, u3, u4, u5, u7, u8, u9, u10, u11, u12, u13, u14, u15, u16, u17, u18, u19, u20, u21, u22, u23, u24, u25, u26, u27, u28, u29, u30, u31, u32, u33, u34, u35, u36, u37, u38, u39, u40, u41, u42, u43, u44, u45, u46, u47, u48, u49, u50, u51, u52, rfl, HR, HB⟩
    go_wp2_with fail
    simp only [Exit.jump]
    go_ret3
    exact DeE.bad HR.out rfl HB.out
  go_wp2_with fail
  refine (kindsOf_any _ fs hf).mono ?_
  rintro e w1 ⟨vk, rfl, hks, hb⟩
  have HB1 : Hid (Below w.heap.size w w1) := ((Below.refl _ _).alloc (Nat.le_refl _) _).trans (hb.mono (by simp))
  have HR1 : Hid (RB w1 w.heap.size w.heap.size y) := HR0.out.next hb (by simp)
  have hp1 : w.heap.size < w1.heap.size := by have := hb.size; simp at this; omega
  clear hb
  by_cases hfe : Rm.formE fs = 0
  case neg =>
    have HR : Hid (Rm.decR fs y = ([], 0, Rm.formE fs)) := by unfold Rm.decR; exact if_pos hfe
    obtain ⟨n, hn⟩ : ∃ n, n = Rm.formE fs := ⟨_, rfl⟩
    rw [← hn] at HR hfe ⊢
    have hd : ((n : Int) != 0) = true := by rw [bne_iff_ne]; omega
    clear hks hn
    go_wp2_with fail
    simp only [Exit.jump]
    go_ret3
    exact DeE.bad HR.out rfl HB1.out
  have HKS := Lib.hid (hks hfe)
  rw [hfe]
  clear hks
  obtain ⟨Ak, ck, rfl⟩ := HKS.out.form
  have HFE := Lib.hid hfe
  have h64 := (Rm.formE_zero hfe).1
  have HAK := Lib.hid (Rm.formE_zero hfe).2
  clear hfe
  go_wp2_with fail
  go_loopw [4, 6, 24] (fun b er i wr => ∃ (k at' : Nat) (L : List Rm.Val), k ≤ fs.length ∧ i = .int .i64 k ∧ er = .int .i64 0 ∧ Hid (Rm.dec (fs.take k) y = (L, at', 0)) ∧ at' ≤ y.length ∧ L.length = k ∧ Hid (OV wr w1.heap.size b L) ∧ Hid (RB wr w.heap.size w.heap.size (y.drop at')) ∧ Hid (w1.grownBy wr (some w.heap.size))) (fun _ _ i _ => fs.length - (intOf i).toNat)
  case atStart => exact ⟨0, 0, [], by omega, rfl, rfl, by simp [Hid, Rm.dec], by omega, rfl, OV.nil _ _, by rw [List.drop_zero]; exact HR1.out, grown_refl _ _⟩
  case round =>
    obtain ⟨k, at', L, hk, rfl, rfl, HD, hat, hLl, HO, HRB, HG⟩ := hrel
    have hwb : Hid (Below w.heap.size w wr) := below_grown HB1.out HG.out (by omega) (Nat.le_refl _)
    have hgs := HG.out.size
    by_cases hlt : k < fs.length
    · have hltI : (k : Int) < (fs.length : Int) := by omega
      obtain ⟨bk, ok, hA, hbk0, hbk, hck⟩ := HKS.out.at (by omega)
      subst hA
      simp at hbk0
      have hkat : KAt wr bk (ok + k * 5) fs[k] := by
        obtain ⟨q0, q1, q2, q3, q4⟩ := hck k hlt
        have hc : ∀ o, wr.cell? ⟨bk, o, none⟩ = w1.cell? ⟨bk, o, none⟩ := fun o => World.cell?_of_block (w := w1) (a := ⟨bk, o, none⟩) (HG.out.block bk hbk (fun e => by have := Option.some.inj e; omega))
        exact ⟨(hc _).trans q0, (hc _).trans q1, (hc _).trans q2, (hc _).trans q3, (hc _).trans q4⟩
      have hisk : Hid (Rm.isK fs[k] = true) := List.all_eq_true.1 HAK.out _ (List.getElem_mem _)
      obtain ⟨x, n, err, hone⟩ : ∃ x n err, Rm.one fs[k] (y.drop at') = (x, n, err) := ⟨_, _, _, rfl⟩
      have hnx : Hid (err = 0 → Rm.dec (fs.take (k + 1)) y = (L ++ [x], at' + n, 0)) := fun h => by subst h; exact Rm.dec_next hlt HD.out hone
      have hst : Hid (err ≠ 0 → Rm.decR fs y = ([], 0, err)) := fun h => by
        have := Rm.dec_stop hlt HD.out (by rw [hone]; exact h)
        rw [hone] at this
        show Rm.decR fs y = _
        unfold Rm.decR
        rw [if_neg (by rw [HFE.out]; simp), this, if_pos h]
      have hnl : Hid (err = 0 → at' + n ≤ y.length) := fun h => by
        subst h
        have := (Rm.one_back hisk.out hone).2.1
        rw [List.length_drop] at this; omega
      obtain ⟨c, hc⟩ : ∃ c, c = fs[k] := ⟨_, rfl⟩
      rw [← hc] at hkat hisk hone
      have HONE := Lib.hid hone
      obtain ⟨g0, g1, g2, g3, g4⟩ := hkat
      clear hc hck hone
      have hkb := setRow_blk (Blk.new wr #[.int .u8 0, .int .i64 0, .nilFunc, .nilFunc, .nilFunc] 60) (kArr c)
      have hks2 : (World.setRow (wr.alloc (.cells #[.int .u8 0, .int .i64 0, .nilFunc, .nilFunc, .nilFunc] 60)) wr.heap.size (kArr c)).heap.size = wr.heap.size + 1 := by simp
      have hb2 := (Below.refl _ (World.setRow (wr.alloc (.cells #[.int .u8 0, .int .i64 0, .nilFunc, .nilFunc, .nilFunc] 60)) wr.heap.size (kArr c))).alloc (Nat.le_refl _) (.cells #[.int .u64 0, .string ⟨#[]⟩, .slice none 0 0] 49)
      have hkb2 : Blk ((World.setRow (wr.alloc (.cells #[.int .u8 0, .int .i64 0, .nilFunc, .nilFunc, .nilFunc] 60)) wr.heap.size (kArr c)).alloc (.cells #[.int .u64 0, .string ⟨#[]⟩, .slice none 0 0] 49)) wr.heap.size (kArr c) 60 := hkb.below hb2 hkb.lt
      have HKB := Lib.hid hkb2
      have HBK : Hid (Below wr.heap.size wr ((World.setRow (wr.alloc (.cells #[.int .u8 0, .int .i64 0, .nilFunc, .nilFunc, .nilFunc] 60)) wr.heap.size (kArr c)).alloc (.cells #[.int .u64 0, .string ⟨#[]⟩, .slice none 0 0] 49))) := (below_setRow (cs := kArr c) ((Below.refl wr.heap.size wr).alloc (Nat.le_refl _) _) (Nat.le_refl _)).trans (hb2.mono (by rw [hks2]; omega))
      have HVB : Hid (Blk ((World.setRow (wr.alloc (.cells #[.int .u8 0, .int .i64 0, .nilFunc, .nilFunc, .nilFunc] 60)) wr.heap.size (kArr c)).alloc (.cells #[.int .u64 0, .string ⟨#[]⟩, .slice none 0 0] 49)) (wr.heap.size + 1) #[.int .u64 0, .string ⟨#[]⟩, .slice none 0 0] 49) := by have := Blk.new (World.setRow (wr.alloc (.cells #[.int .u8 0, .int .i64 0, .nilFunc, .nilFunc, .nilFunc] 60)) wr.heap.size (kArr c)) #[.int .u64 0, .string ⟨#[]⟩, .slice none 0 0] 49; rwa [hks2] at this
      obtain ⟨e0, e1, e2, e3, e4⟩ := KAt.blk hkb2
      have hen := enters_rd c
      clear hkb hb2 hkb2 hks2
      go_wp2_with (refine wpList_store_row rfl 60 (.tmp 10) (.tmp 27) rfl wr.heap.size (kArr c) rfl rfl 60 _ (Blk.new wr _ _) (by rw [iKind]; rfl) rfl (kArr_one c) ?_)
      clear e0 e1 e2 e3 e4 hen g0 g1 g2 g3 g4
      generalize (World.setRow (wr.alloc (.cells #[.int .u8 0, .int .i64 0, .nilFunc, .nilFunc, .nilFunc] 60)) wr.heap.size (kArr c)).alloc (.cells #[.int .u64 0, .string ⟨#[]⟩, .slice none 0 0] 49) = wk at HKB HBK HVB ⊢
      have hsk := HBK.out.size
      have hvlt := HVB.out.lt
      refine (rd_any wk w.heap.size w.heap.size (y.drop at') c hisk.out (HRB.out.next HBK.out (by omega)) (Nat.le_refl _) (by omega) (by rw [List.length_drop]; omega)).mono ?_
      intro e w5 hrd
      obtain ⟨v5, rfl, hvo, hrb, hg5⟩ := hrd
      rw [HONE.out] at hvo hrb ⊢
      simp only at hvo hrb ⊢
      obtain ⟨lv, rfl, hol, hx64⟩ := hvo
      have HV5 : Hid (Blk w5 (wr.heap.size + 1) #[.int .u64 0, .string ⟨#[]⟩, .slice none 0 0] 49) := HVB.out.grown hg5 (by simp; omega)
      have HRB5 := Lib.hid hrb
      have HG5 : Hid (wr.grownBy w5 (some w.heap.size)) := grown_trans (grown_below HBK.out _) hg5
      have HOL := Lib.hid hol
      have honel := OL.one hol
      clear hol hrb hg5
      have hv6 : Blk (World.setRow w5 (wr.heap.size + 1) #[.int .u64 (x.num : Int), .string ⟨x.str.toArray⟩, lv]) (wr.heap.size + 1) #[.int .u64 (x.num : Int), .string ⟨x.str.toArray⟩, lv] 49 := setRow_blk HV5.out _
      have HG6 : Hid (wr.grownBy (World.setRow w5 (wr.heap.size + 1) #[.int .u64 (x.num : Int), .string ⟨x.str.toArray⟩, lv]) (some w.heap.size)) := grown_setRow HG5.out (by omega)
      have HRB6 : Hid (err = 0 → RB (World.setRow w5 (wr.heap.size + 1) #[.int .u64 (x.num : Int), .string ⟨x.str.toArray⟩, lv]) w.heap.size w.heap.size (y.drop (at' + n))) := fun h => by
        have := (HRB5.out h).setRow (g := wr.heap.size + 1) #[.int .u64 (x.num : Int), .string ⟨x.str.toArray⟩, lv] (by omega) (by omega)
        rwa [List.drop_drop] at this
      have HOL6 : Hid (OL (World.setRow w5 (wr.heap.size + 1) #[.int .u64 (x.num : Int), .string ⟨x.str.toArray⟩, lv]) w1.heap.size lv x.lst) := by
        have h1 : w5.grownBy (World.setRow w5 (wr.heap.size + 1) #[.int .u64 (x.num : Int), .string ⟨x.str.toArray⟩, lv]) (some (wr.heap.size + 1)) := ⟨rfl, rfl, rfl, by simp, fun i _ hr => setRow_other _ _ _ _ (fun e => hr (by rw [e]))⟩
        exact own_lower (own_lt HOL.out h1 (by omega)) (by omega)
      have f0 : (World.setRow w5 (wr.heap.size + 1) #[.int .u64 (x.num : Int), .string ⟨x.str.toArray⟩, lv]).cell? ⟨wr.heap.size + 1, 0, none⟩ = some (.int .u64 (x.num : Int)) := hv6.cell 0 rfl
      have f1 : (World.setRow w5 (wr.heap.size + 1) #[.int .u64 (x.num : Int), .string ⟨x.str.toArray⟩, lv]).cell? ⟨wr.heap.size + 1, 1, none⟩ = some (.string ⟨x.str.toArray⟩) := hv6.cell 1 rfl
      have f2 : (World.setRow w5 (wr.heap.size + 1) #[.int .u64 (x.num : Int), .string ⟨x.str.toArray⟩, lv]).cell? ⟨wr.heap.size + 1, 2, none⟩ = some lv := hv6.cell 2 rfl
      have hs56 : (World.setRow w5 (wr.heap.size + 1) #[.int .u64 (x.num : Int), .string ⟨x.str.toArray⟩, lv]).heap.size = w5.heap.size := by simp
      have hs5 := HG5.out.size
      have HBN : Hid (Blk ((World.setRow w5 (wr.heap.size + 1) #[.int .u64 (x.num : Int), .string ⟨x.str.toArray⟩, lv]).alloc (.cells #[.int .u64 (x.num : Int), .string ⟨x.str.toArray⟩, lv] 49)) w5.heap.size #[.int .u64 (x.num : Int), .string ⟨x.str.toArray⟩, lv] 49) := by have := Blk.new (World.setRow w5 (wr.heap.size + 1) #[.int .u64 (x.num : Int), .string ⟨x.str.toArray⟩, lv]) #[.int .u64 (x.num : Int), .string ⟨x.str.toArray⟩, lv] 49; rwa [hs56] at this
      clear hv6
      obtain ⟨i0, hi, hz0, hz1, hz2⟩ := info_parts info_rc
      by_cases h0 : err = 0
      · subst h0
        have HO6 : Hid (OV (World.setRow w5 (wr.heap.size + 1) #[.int .u64 (x.num : Int), .string ⟨x.str.toArray⟩, lv]) w1.heap.size u4 L) := HO.out.kept HG6.out hp1
        go_wp2_with (first
          | (refine wpList_store_row rfl 49 (.tmp 11) (.tmp 33) rfl (wr.heap.size + 1) #[.int .u64 (x.num : Int), .string ⟨x.str.toArray⟩, lv] rfl rfl 49 _ HV5.out (by rw [iRc]; rfl) rfl (one3 _ _ _ rfl rfl honel) ?_)
          | (at_builtin; refine wpList_append_val rfl _ _ rfl w1.heap.size _ L rfl (HO6.out.below ((Below.refl _ _).alloc (Nat.le_refl _) _)) x lv (World.ownsRow.alloc HOL6.out _) hx64 _ rfl HBN.out (by omega) (by simp; omega) ?_; intro v' w7 hown7 hgrow7 hge7))
        have HO7 := Lib.hid hown7
        have hb7 : Below w1.heap.size (World.setRow w5 (wr.heap.size + 1) #[.int .u64 (x.num : Int), .string ⟨x.str.toArray⟩, lv]) w7 := ((Below.refl w1.heap.size (World.setRow w5 (wr.heap.size + 1) #[.int .u64 (x.num : Int), .string ⟨x.str.toArray⟩, lv])).alloc (by rw [hs56]; omega) _).grown hgrow7 (by simp; omega) (fun r hr => hge7 r hr)
        have HRB7 : Hid (RB w7 w.heap.size w.heap.size (y.drop (at' + n))) := by
          obtain ⟨rv, q1, q2⟩ := HRB6.out rfl
          exact ⟨rv, q1.below hb7 hp1, q2.below hb7 (by omega)⟩
        have HG7 : Hid (w1.grownBy w7 (some w.heap.size)) := by
          have h1 := grown_trans HG.out HG6.out
          exact ⟨hb7.os.trans h1.os, hb7.tape.trans h1.tape, hb7.output.trans h1.output, Nat.le_trans h1.size hb7.size, fun i hi hr => (hb7.block i hi).trans (h1.block i hi hr)⟩
        clear hown7 hgrow7 hge7 hb7 f0 f1 f2
        go_wp2_with fail
        go_roundw
        case rel => exact ⟨k + 1, at' + n, L ++ [x], by omega, by go_num, by first | rfl | trivial, (by have h := hnx.out; first | exact h rfl | exact h trivial), (by have h := hnl.out; first | exact h rfl | exact h trivial), by rw [List.length_append]; simp; omega, HO7.out, HRB7.out, HG7.out⟩
        case measure => simp [intOf]; omega
      · have hd0 : ((err : Int) != 0) = true := by rw [bne_iff_ne]; omega
        have HR := Lib.hid (hst.out h0)
        have HB6 : Hid (Below w.heap.size w (World.setRow w5 (wr.heap.size + 1) #[.int .u64 (x.num : Int), .string ⟨x.str.toArray⟩, lv])) := below_grown hwb.out HG6.out (by omega) (Nat.le_refl _)
        clear h0
        go_wp2_with (refine wpList_store_row rfl 49 (.tmp 11) (.tmp 33) rfl (wr.heap.size + 1) #[.int .u64 (x.num : Int), .string ⟨x.str.toArray⟩, lv] rfl rfl 49 _ HV5.out (by rw [iRc]; rfl) rfl (one3 _ _ _ rfl rfl honel) ?_)
        go_step3
        exact ⟨rfl, err, _, _, _, _, _, _, _, _, _, _, _, _, _, _, _, _, _, _, _, _, _, _, _, _, _, _, _, _, _, _, _, _, _, _, _, _, _, _, _, _, _, _, _, _, _, _, _, _, _, _, _, _, rfl, HR.out, HB6.out⟩
    · obtain rfl : k = fs.length := by omega
      have hltI : ¬ ((fs.length : Int) < (fs.length : Int)) := by omega
      have HD2 := HD
      rw [List.take_length] at HD2
      obtain ⟨rv, hrb, hrv⟩ := HRB.out
      obtain ⟨Ar, cr, rfl⟩ := hrv.form
      have hcr : wr.cell? ⟨w.heap.size, 0, none⟩ = some (.slice Ar (y.drop at').length cr) := hrb.cell 0 rfl
      rw [List.length_drop] at hcr
      have hsub : (y.length : Int) - ((y.length - at' : Nat) : Int) = (at' : Int) := by omega
      have HSUB := Lib.hid hsub
      obtain ⟨m, hm⟩ : ∃ m, m = y.length - at' := ⟨_, rfl⟩
      rw [← hm] at hcr HSUB
      have hmI : (y.length : Int) - (m : Int) = (at' : Int) := HSUB.out
      clear hrb hrv hsub hm
      by_cases h4 : 4000 < at'
      · have h4I : (4000 : Int) < (y.length : Int) - (m : Int) := by omega
        have HR : Hid (Rm.decR fs y = ([], 0, 3)) := by
          show Rm.decR fs y = _
          unfold Rm.decR
          rw [if_neg (by rw [HFE.out]; simp), HD2.out, if_neg (by simp), if_pos h4]
        go_wp2_with fail
        go_step3
        exact ⟨rfl, 3, _, _, _, _, _, _, _, _, _, _, _, _, _, _, _, _, _, _, _, _, _, _, _, _, _, _, _, _, _, _, _, _, _, _, _, _, _, _, _, _, _, _, _, _, _, _, _, _, _, _, _, _, rfl, HR.out, hwb.out⟩
      · have h4I : ¬ (4000 : Int) < (y.length : Int) - (m : Int) := by omega
        have HR : Hid (Rm.decR fs y = (L, at', 0)) := by
          show Rm.decR fs y = _
          unfold Rm.decR
          rw [if_neg (by rw [HFE.out]; simp), HD2.out, if_neg (by simp), if_neg h4]
        go_wp2_with fail
        simp only [Exit.jump]
        go_ret3
        unfold DeE
        rw [HR.out]
        exact ⟨_, by first | rfl | (simp only [hmI]; rfl), HO.out.vl, hwb.out⟩
end Go.Proofs.Ytelpgjaagkojeaa

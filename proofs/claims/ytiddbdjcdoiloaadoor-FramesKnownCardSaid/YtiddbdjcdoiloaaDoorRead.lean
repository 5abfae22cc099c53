/- The contracts of at and Read. Condition: a device in memory, a sector that there is. -/
import Derived.Test.YtiddbdjcdoiloaaDoorLeaf
import Derived.Great.BuildSlice
namespace Go.Proofs.YtiddbdjcdoiloaaDoor
open Go.RowKit Go.Maps

theorem wpList_lookup_at (w : World) {ops : Array Oper} {rest : List Oper} {o : Oper} {a : Act} {Q : Exit → Act → World → Prop} (hg : o.guard = none) (m x : Operand) (hop : o.op = Op.lookup 104 m x true)
    (b n : Nat) (D : MD) (hm : a.eval m = .map (some b)) (hown : w.ownsMap Tryd.prog 3 pl b n D) (k : Int) (hx : a.eval x = .int .i64 k) (hk : (Lit.int .i64 k).wf = true) (i : Int) (hi : D.atKey (.int .i64 k) (.lit (.int .i64 0)) = .lit (.int .i64 i))
    (hK : wpList Tryd.prog ops Q rest (a.put o.dst (.tuple #[.int .i64 i, .bool (Maps.has D (.int .i64 k))])) w) : wpList Tryd.prog ops Q (o :: rest) a w :=
  wpList_lookup_own_ok_int w hg m x 104 hop 3 3 .i64 intLaw uMap Tryd.underlying3 (zeroInt w) b n D hm hown _ _ hx (keyOf_int_mk Tryd.underlying3 hk) (fun u hu _ => by
    obtain rfl : u = i := by have := hu.symm.trans hi; simpa using this
    exact hK)
theorem zeroSec (w : World) : (zeroValue 38).run Tryd.prog w = .ok (.agg (secC Dv.zeroS).toArray) w := by kernel_rfl
theorem builtZ : Tryd.prog.built 38 [] = some (secC Dv.zeroS).toArray := by kernel_rfl
theorem setRow_blk {w : World} {g : Nat} {old : Array Value} {t : TypeId} (h : Blk w g old t) (cs : Array Value) : Blk (w.setRow g cs) g cs t := setRow_heap w g _ _ _ _ h
/-- A whole sector is stored into a block of its own: the world behind it is a letter. -/
theorem wpList_store_sec {w : World} {ops : Array Oper} {rest : List Oper} {o : Oper} {a : Act} {Q : Exit → Act → World → Prop} (hgd : o.guard = none) (x y : Operand) (ho : o.op = .store 38 x y) (hd : o.dst = none)
    (g : Nat) (v : Dv.Sec) (hx : a.eval x = .pointer (some ⟨g, 0, none⟩)) (hy : a.eval y = .agg (secC v).toArray) (u : Dv.Sec) (hb : Blk w g (secC u).toArray 38)
    (h : ∀ w', Blk w' g (secC v).toArray 38 → w.grownBy w' (some g) → wpList Tryd.prog ops Q rest a w') : wpList Tryd.prog ops Q (o :: rest) a w :=
  wpList_store_rowTo hgd 38 x y ho hd g (secC v).toArray hx hy 38 _ hb (by rw [iSec, secC_size]) (by simp only [secC_size]) (secC_all v) (h _ (setRow_blk hb _) ⟨rfl, rfl, rfl, by simp, fun i _ hr => setRow_other _ _ _ _ (fun e => hr (by rw [e]))⟩)
/-- The zero sector, as a letter. -/
theorem zero_gen : ∃ z, Hid (z = Dv.zeroS) ∧ (∀ w, (zeroValue 38).run Tryd.prog w = .ok (.agg (secC z).toArray) w) ∧ Tryd.prog.built 38 [] = some (secC z).toArray := ⟨_, rfl, zeroSec, builtZ⟩
theorem wfI64 {n : Int} (h0 : -9223372036854775808 ≤ n) (h1 : n ≤ 9223372036854775807) : (Lit.int .i64 n).wf = true := by
  simp only [Lit.wf, IntKind.min, IntKind.max, IntKind.signed, IntKind.bits, Bool.and_eq_true, decide_eq_true_eq, if_true]; omega
theorem range_tail {w : World} {g o : Nat} {v : Value} {cs : List Value} (h : w.rangeAt g o (v :: cs)) : w.rangeAt g (o + 1) cs := fun j u hu => by
  have := h (j + 1) u (by simpa using hu)
  rwa [show o + (j + 1) = o + 1 + j by omega] at this
theorem Blk.range {w : World} {g : Nat} {cs : List Value} {t : TypeId} (h : Blk w g cs.toArray t) : w.rangeAt g 0 cs := fun j v hv => by
  rw [Nat.zero_add]; exact h.cell j (by rw [List.getElem?_toArray]; exact hv)
theorem below_setRow {B : Nat} {a w : World} (h : Below B a w) {g : Nat} (hB : B ≤ g) (cs : Array Value) : Below B a (w.setRow g cs) :=
  h.trans ⟨rfl, rfl, rfl, by simp, fun k hk => setRow_other _ _ _ _ (by omega)⟩
set_option maxRecDepth 100000 in
set_option maxHeartbeats 1000000 in
theorem at_any {w : World} {b g c m : Nat} {cv : Value} {s : Dv.S} (M : DevR w b g c cv m s) (n : Nat) (hn : n < s.st.length) :
    Calls Tryd.prog 70 #[.pointer (some ⟨b, 0, none⟩), .int .i64 (n : Int)] w fun e w' => e = .returned (secV (Dv.reads s n)) ∧ Below w.heap.size w w' := by
  obtain ⟨z, _, hz, _⟩ := zero_gen
  have hn2 := M.ok.hi
  obtain ⟨D, hD, hN⟩ := M.nw
  obtain ⟨hN1, hN2⟩ := hN n (by omega)
  have HB0 : Hid (Below w.heap.size w (w.alloc (.cells (secC z).toArray 38))) := (Below.refl _ _).alloc (Nat.le_refl _) _
  have HD := Lib.hid (hD.alloc (.cells (secC z).toArray 38))
  have HM := Lib.hid (M.below HB0.out)
  have h1 := HM.out.c1
  have h2 := HM.out.c2
  have h6 := HM.out.c6
  have hwf : (Lit.int .i64 (n : Int)).wf = true := wfI64 (by omega) (by omega)
  have hnI : (n : Int) < (s.st.length : Int) := by omega
  have hbl := Blk.new w (secC z).toArray 38
  have HBL := Lib.hid hbl
  clear hbl hD hN hn2
  cases hl : Dv.lastI s.ca n with
  | none =>
    rw [hl] at hN1
    have hrd := Dv.reads_none hl hn
    obtain ⟨x, hx⟩ : ∃ x, x = s.st[n] := ⟨_, rfl⟩
    have hat := HM.out.stb.at_ n hn
    rw [hrd, ← hx]
    rw [← hx] at hat
    have HAT := Lib.hid hat
    clear hl hrd hx hN2 hat M h2
    have hN3 : Maps.has D (.int .i64 (n : Int)) = false := hN1
    clear hN1
    go_enter Tryd.func70, Tryd.ntmps70
    go_wp2_with (first
      | (refine bodyPost_ret (results_cell_row rfl _ _ w.heap.size 38 (secC x).toArray (0, 0) _ rfl hb9 uSec rfl (by rw [iSec, secC_size])) rfl ?_; exact ⟨rfl, HB0.out.grown hg9 (by simp) (fun k hk => by cases hk; exact Nat.le_refl _)⟩)
      | (at_lookup; refine wpList_lookup_own_ok_int _ rfl _ _ 104 rfl 3 3 .i64 intLaw uMap Tryd.underlying3 (zeroInt _) m s.ca.length D rfl HD.out _ _ rfl (keyOf_int_mk Tryd.underlying3 hwf) ?_; intro u hu hwu)
      | (refine wpList_load_mid rfl 38 _ rfl g (n * 128) rfl (secC x) _ HAT.out uSec rfl (by rw [iSec, secC_len]) ?_)
      | (refine wpList_store_sec rfl _ _ rfl rfl w.heap.size x rfl rfl z HBL.out ?_; intro w9 hb9 hg9))
  | some i =>
    rw [hl] at hN1
    have hi := Dv.lastI_lt hl
    have hrd := Dv.reads_some hl hi
    have hi4 := M.ok.ca
    obtain ⟨x, hx⟩ : ∃ x, x = (s.ca[i]).2 := ⟨_, rfl⟩
    obtain ⟨A, k0, rfl⟩ := M.cch.cv.form
    obtain ⟨k, o, rfl, _, hcc⟩ := HM.out.cch.cv.at (by omega)
    have hat := range_tail (hcc i hi)
    rw [hrd, ← hx]
    rw [← hx] at hat
    have HAT := Lib.hid hat
    have hN3 : Maps.has D (.int .i64 (n : Int)) = true := hN1
    have HN4 := Lib.hid (hN2 i hl)
    have hiI : (i : Int) < (s.ca.length : Int) := by omega
    clear hl hrd hx hN2 hat M hcc hN1 h1
    go_enter Tryd.func70, Tryd.ntmps70
    go_wp2_with (first
      | (refine bodyPost_ret (results_cell_row rfl _ _ w.heap.size 38 (secC x).toArray (0, 0) _ rfl hb9 uSec rfl (by rw [iSec, secC_size])) rfl ?_; exact ⟨rfl, HB0.out.grown hg9 (by simp) (fun k hk => by cases hk; exact Nat.le_refl _)⟩)
      | (at_lookup; refine wpList_lookup_at _ rfl _ _ rfl m s.ca.length D rfl HD.out _ rfl hwf _ HN4.out ?_)
      | (refine wpList_load_mid rfl 38 _ rfl k (o + i * 129 + 1) rfl (secC x) _ HAT.out uSec rfl (by rw [iSec, secC_len]) ?_)
      | (refine wpList_store_sec rfl _ _ rfl rfl w.heap.size x rfl rfl z HBL.out ?_; intro w9 hb9 hg9))
theorem results_sec2 {fn : Func} {p u : Tmp} (h : fn.results = #[.cell p 38, .tmp u]) (tmps : Array Value) (w : World) (q : Nat) (x : Dv.Sec) (hp : tmps.getD p undef = .pointer (some ⟨q, 0, none⟩)) (hb : Blk w q (secC x).toArray 38) :
    (results fn tmps).run Tryd.prog w = .ok (.tuple #[secV x, tmps.getD u undef]) w := by
  have hl : (loadVar 38 ⟨q, 0, none⟩).run Tryd.prog w = .ok (.agg (secC x).toArray) w := run_loadVar_mid w q 0 38 (secC x) _ hb.range uSec rfl (by rw [iSec, secC_len])
  have h1 : (results fn tmps).run Tryd.prog w = ((asAddr (tmps.getD p undef)).run Tryd.prog w).andThen fun a w₁ => ((loadVar 38 a).run Tryd.prog w₁).andThen fun v w₂ => .ok (.tuple #[v, tmps.getD u undef]) w₂ := by
    simp only [results, h]
    simp [Sem.run_bind, Result.andThen]
  rw [h1, hp]
  have : (asAddr (.pointer (some ⟨q, 0, none⟩))).run Tryd.prog w = .ok ⟨q, 0, none⟩ w := rfl
  rw [this]
  simp only [Result.andThen_ok, hl]
  rfl
/-- What a read is. -/
def rdS (s : Dv.S) (n : Int) : Dv.Sec := if secE s n = 0 then Dv.reads s n.toNat else Dv.zeroS
theorem secE_zero {s : Dv.S} {n : Int} (h : secE s n = 0) : s.off = false ∧ ∃ k : Nat, n = (k : Int) ∧ k < s.st.length := by
  unfold secE at h
  split at h
  · omega
  · rename_i h1
    split at h
    · omega
    · rename_i h2
      exact ⟨by simpa using h1, n.toNat, by omega, by omega⟩
theorem secE_ok {s : Dv.S} {k : Nat} (h : s.off = false) (hk : k < s.st.length) : secE s (k : Int) = 0 := by
  unfold secE; rw [h, if_neg (by simp), if_neg (by omega)]
theorem rdS_ok {s : Dv.S} {k : Nat} (h : s.off = false) (hk : k < s.st.length) : rdS s (k : Int) = Dv.reads s k := by
  unfold rdS; rw [if_pos (secE_ok h hk)]; rfl
set_option maxRecDepth 100000 in
set_option maxHeartbeats 1000000 in
theorem read_any {w : World} {b g c m : Nat} {cv : Value} {s : Dv.S} (M : DevR w b g c cv m s) (n : Int) :
    Calls Tryd.prog 60 #[.pointer (some ⟨b, 0, none⟩), .int .i64 n] w fun e w' => e = .returned (.tuple #[secV (rdS s n), .int .i64 (secE s n)]) ∧ Below w.heap.size w w' := by
  obtain ⟨z, hzz, hz, hbz⟩ := zero_gen
  have HB0 : Hid (Below w.heap.size w (w.alloc (.cells (secC z).toArray 38))) := (Below.refl _ _).alloc (Nat.le_refl _) _
  have HBL := Lib.hid (Blk.new w (secC z).toArray 38)
  have HM := Lib.hid (M.below HB0.out)
  have HC := Lib.hid (checkSector_any HM.out n)
  by_cases h0 : secE s n = 0
  · obtain ⟨hoff, k, rfl, hk⟩ := secE_zero h0
    have HA := Lib.hid (at_any HM.out k hk)
    rw [rdS_ok hoff hk]
    rw [h0] at HC ⊢
    obtain ⟨x, hx⟩ : ∃ x, x = Dv.reads s k := ⟨_, rfl⟩
    rw [← hx] at HA ⊢
    clear hoff hk h0 hx M HM
    go_enter Tryd.func60, Tryd.ntmps60
    go_wp2_with fail
    refine HC.out.mono ?_
    rintro e w' ⟨rfl, rfl⟩
    go_wp2_with fail
    refine HA.out.mono ?_
    rintro e w1 ⟨rfl, hb1⟩
    have HB1 := Lib.hid hb1
    have HBL1 := Lib.hid (HBL.out.below hb1 HBL.out.lt)
    clear hb1
    have hvx : secV x = .agg (secC x).toArray := rfl
    rw [hvx]
    go_wp2_with (first
      | (refine bodyPost_ret (results_sec2 rfl _ _ w.heap.size x rfl hb9) rfl ?_; exact ⟨rfl, (HB0.out.trans (HB1.out.mono HB0.out.size)).grown hg9 (Nat.le_trans HB0.out.size HB1.out.size) (fun k hk => by cases hk; exact Nat.le_refl _)⟩)
      | (refine wpList_store_sec rfl _ _ rfl rfl w.heap.size x rfl rfl z HBL1.out ?_; intro w9 hb9 hg9))
  · obtain ⟨r, hr⟩ : ∃ r, r = secE s n := ⟨_, rfl⟩
    have hrd : rdS s n = z := by unfold rdS; rw [hzz.out]; exact if_neg h0
    rw [hrd]
    rw [← hr] at HC h0 ⊢
    have hd : (r != 0) = true := by rw [bne_iff_ne]; exact h0
    clear h0 hrd hr M HM
    go_enter Tryd.func60, Tryd.ntmps60
    go_wp2_with fail
    refine HC.out.mono ?_
    rintro e w' ⟨rfl, rfl⟩
    go_wp2_with (first
      | (refine bodyPost_ret (results_sec2 rfl _ _ w.heap.size z rfl hb9) rfl ?_; exact ⟨rfl, HB0.out.grown hg9 (by simp) (fun k hk => by cases hk; exact Nat.le_refl _)⟩)
      | (refine wpList_buildTo rfl 38 #[] rfl (some 12) rfl (secC z).toArray (by simp [hbz]) ?_)
      | (refine wpList_store_sec rfl (.tmp 4) (.tmp 12) rfl rfl w.heap.size z rfl rfl z HBL.out ?_; intro w9 hb9 hg9))
end Go.Proofs.YtiddbdjcdoiloaaDoor

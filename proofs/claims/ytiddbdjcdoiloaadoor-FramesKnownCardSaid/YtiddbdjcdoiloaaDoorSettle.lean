/- The contract of settle: writes become stable, the cache is empty. Condition: a device in memory, a slice that holds writes to sectors that there are. -/
import Derived.Test.YtiddbdjcdoiloaaDoorRead
import Derived.StillTailTactics
namespace Go.Proofs.YtiddbdjcdoiloaaDoor
open Go.RowKit Go.Maps Go.ChangeMaps Go.MapKept

theorem zeroWr (w : World) : (zeroValue 112).run Tryd.prog w = .ok (.agg (wrC (0, Dv.zeroS)).toArray) w := by kernel_rfl
theorem uWr : ∃ d, Tryd.prog.underlying 112 = some d ∧ d.isRow = true := ⟨_, Tryd.underlying112, rfl⟩
theorem zeroWr_gen : ∃ p, Hid (p = (0, Dv.zeroS)) ∧ (∀ w, (zeroValue 112).run Tryd.prog w = .ok (.agg (wrC p).toArray) w) := ⟨_, rfl, zeroWr⟩
theorem wrC_size (p : Dv.Wr) : (wrC p).toArray.size = 129 := by rw [List.size_toArray, wrC_len]
/-- A whole write is stored into a block of its own. -/
theorem wpList_store_wr {w : World} {ops : Array Oper} {rest : List Oper} {o : Oper} {a : Act} {Q : Exit → Act → World → Prop} (hgd : o.guard = none) (x y : Operand) (ho : o.op = .store 112 x y) (hd : o.dst = none)
    (g : Nat) (v : Dv.Wr) (hx : a.eval x = .pointer (some ⟨g, 0, none⟩)) (hy : a.eval y = .agg (wrC v).toArray) (u : Dv.Wr) (hb : Blk w g (wrC u).toArray 112)
    (h : ∀ w', Blk w' g (wrC v).toArray 112 → w.grownBy w' (some g) → wpList Tryd.prog ops Q rest a w') : wpList Tryd.prog ops Q (o :: rest) a w :=
  wpList_store_rowTo hgd 112 x y ho hd g (wrC v).toArray hx hy 112 _ hb (by rw [iWr, wrC_size]) (by simp only [wrC_size]) (wrC_all v) (h _ (setRow_blk hb _) ⟨rfl, rfl, rfl, by simp, fun i _ hr => setRow_other _ _ _ _ (fun e => hr (by rw [e]))⟩)
/-- A whole write is loaded. -/
theorem wpList_load_wr {w : World} {ops : Array Oper} {rest : List Oper} {o : Oper} {a : Act} {Q : Exit → Act → World → Prop} (hgd : o.guard = none) (x : Operand) (ho : o.op = .load 112 x)
    (b k : Nat) (v : Dv.Wr) (hx : a.eval x = .pointer (some ⟨b, k, none⟩)) (hc : w.rangeAt b k (wrC v))
    (h : wpList Tryd.prog ops Q rest (a.put o.dst (.agg (wrC v).toArray)) w) : wpList Tryd.prog ops Q (o :: rest) a w := by
  obtain ⟨d, hu, hd⟩ := uWr
  exact wpList_load_mid hgd 112 x ho b k hx (wrC v) d hc hu hd (by rw [iWr, wrC_len]) h
/-- A whole sector is stored into the middle of a row of sectors. -/
theorem wpList_store_stb {w : World} {ops : Array Oper} {rest : List Oper} {o : Oper} {a : Act} {Q : Exit → Act → World → Prop} (hgd : o.guard = none) (x y : Operand) (ho : o.op = .store 38 x y) (hd : o.dst = none)
    (g i : Nat) (v : Dv.Sec) (st : List Dv.Sec) (hx : a.eval x = .pointer (some ⟨g, i * 128, none⟩)) (hy : a.eval y = .agg (secC v).toArray) (hb : Stb w g st) (hi : i < st.length)
    (h : ∀ w', Stb w' g (st.set i v) → w.grownBy w' (some g) → wpList Tryd.prog ops Q rest a w') : wpList Tryd.prog ops Q (o :: rest) a w := by
  refine wpList_store_mid hgd 38 x y ho g (i * 128) (secC v).toArray hx hy ?_ (by rw [iSec, secC_size]) (secC_all v) ?_
  · rw [secC_size]; exact hb.there i hi
  · rw [hd]; exact h _ (hb.store i hi v) (grown_setCells g _ _ _)
/-- A whole sector is loaded in a region that draws its order. -/
theorem still_load_sec {w : World} {ops : Array Oper} {rest : List Oper} {o : Oper} {a : Act} {Q : Act → Prop} (hg : o.guard = none) (x : Operand) (ho : o.op = .load 38 x) (b k : Nat) (v : Dv.Sec) (hx : a.eval x = .pointer (some ⟨b, k, none⟩))
    (hc : w.rangeAt b k (secC v)) (h : wpStill Tryd.prog ops w Q rest (a.put o.dst (.agg (secC v).toArray))) : wpStill Tryd.prog ops w Q (o :: rest) a := by
  refine wpStill_step fun K hK => ?_
  rw [if_pos (by simp [Region.wanted, hg])]
  unfold Oper.still execOp
  simp only [ho, hx, Instr.loadAt, Instr.sureAddr, Sem.run_bind, Sem.run_pure, Result.andThen_ok, run_loadVar_mid w b k 38 (secC v) _ hc uSec rfl (by rw [iSec, secC_len])]
  rw [Oper.stillUpon_value]
  exact hK _ h
/-- clear of a map. -/
theorem wpList_clear {w : World} {ops : Array Oper} {rest : List Oper} {o : Oper} {a : Act} {Q : Exit → Act → World → Prop} (hg : o.guard = none) (x : Operand) (hop : o.op = Op.call { callee := Callee.builtin Builtin.clear, args := #[x], argTypes := #[104] })
    (b n : Nat) (D : MD) (hx : a.eval x = .map (some b)) (hown : w.ownsMap Tryd.prog 3 pl b n D)
    (h : ∀ w', w'.ownsMap Tryd.prog 3 pl b 0 (.map []) → w.grownBy w' (some b) → wpList Tryd.prog ops Q rest (a.put o.dst (.tuple #[])) w') : wpList Tryd.prog ops Q (o :: rest) a w := by
  obtain ⟨es, clock, hb, F, hs, rfl⟩ := hown
  have hrun : ∀ ty, (Builtin.clear_ #[104] ty #[.map (some b)]).run Tryd.prog w = .ok (.tuple #[]) (setBlock w b (.map #[] clock)) := fun ty => by
    simp [Builtin.clear_, run_underlying uMap, MapKept.run_getObj_map hb, MapKept.run_setObj_map (.map #[] clock) hb, Result.andThen]
    rfl
  refine wpList_plain hg fun K' hK' => ?_
  unfold Oper.wp
  simp [execOp, hop, resolve, invoke, builtin, hx, hrun, Result.andThen]
  refine hK' _ _ (h _ ⟨#[], clock, heap_setBlock_same hb _, ⟨by simp, stamped_empty clock, by simp⟩, Nat.le_refl _, rfl⟩ ⟨rfl, rfl, rfl, by simp [setBlock], fun i _ hi => heap_setBlock_other hb _ (fun e => hi (by rw [e]))⟩)
/-- The writes that wait are none. -/
theorem NW.nil : NW (.map [] : MD) [] := fun k _ => ⟨rfl, fun i h => by simp [Dv.lastI] at h⟩
theorem put_take {st : List Dv.Sec} {l : List Dv.Wr} {k : Nat} (h : k < l.length) : Dv.put st (l.take (k + 1)) = (Dv.put st (l.take k)).set l[k].1 l[k].2 := by
  rw [List.take_succ_eq_append_getElem h, Dv.put_snoc]
set_option maxRecDepth 100000 in
set_option maxHeartbeats 1000000 in
theorem settle_any {w : World} {b g c m : Nat} {cv : Value} {s : Dv.S} (M : DevR w b g c cv m s) (v : Value) (l : List Dv.Wr) (hv : CV w v l) (hl : ∀ p ∈ l, p.1 < s.st.length) (hn : l.length ≤ 1000000) :
    Calls Tryd.prog 73 #[.pointer (some ⟨b, 0, none⟩), v] w fun e w' => e = .returned (.tuple #[]) ∧ DevR w' b g c (.slice none 0 0) m (Dv.settle s l) ∧ Fr w w' [b, g, m] := by
  obtain ⟨zw, _, hz⟩ := zeroWr_gen
  obtain ⟨A, c0, rfl⟩ := hv.form
  have HM := Lib.hid M
  have HV := Lib.hid hv
  have HL := Lib.hid hl
  clear M hv hl
  go_enter Tryd.func73, Tryd.ntmps73
  go_wp2_with fail
  go_loopw [8] (fun i wr => ∃ k : Nat, k ≤ l.length ∧ i = .int .i64 k ∧ Hid (Stb wr g (Dv.put s.st (l.take k))) ∧ Hid (w.grownBy wr (some g))) (fun i _ => l.length - (intOf i).toNat)
  case atStart => exact ⟨0, by omega, rfl, HM.out.stb, grown_refl _ _⟩
  case round =>
    obtain ⟨k, hk, rfl, HS, HG⟩ := hrel
    have hgs := HG.out.size
    by_cases hlt : k < l.length
    · have hltI : (k : Int) < (l.length : Int) := by omega
      obtain ⟨q, o, rfl, ⟨cs, hq⟩, hcc⟩ := HV.out.at (by omega)
      have hqg : q ≠ g := fun e => by
        subst e
        obtain ⟨cs2, h2⟩ := HM.out.stb.blk
        have := Option.some.inj (hq.symm.trans h2)
        injection this with _ h3; exact absurd h3 (by decide)
      have hrg : Hid (wr.rangeAt q (o + k * 129) (wrC l[k])) := fun j u hu => (World.cell?_of_block (a := ⟨q, _, none⟩) (HG.out.block q hq.lt (fun e => hqg (Option.some.inj e)))).trans (hcc k hlt j u hu)
      have hat := HL.out l[k] (List.getElem_mem _)
      obtain ⟨p, hp⟩ : ∃ p, p = l[k] := ⟨_, rfl⟩
      rw [← hp] at hrg hat
      have hb1 : wr.cell? ⟨b, 1, none⟩ = some (.slice (some ⟨g, 0, none⟩) s.st.length c) := (World.cell?_of_block (a := ⟨b, 1, none⟩) (HG.out.block b HM.out.blk.lt (fun e => HM.out.ne_bg (Option.some.inj e)))).trans HM.out.c1
      have HNEW := Lib.hid (Blk.new wr (wrC zw).toArray 112)
      have HP := Lib.hid hp
      clear hcc hq hp
      go_wp2_with (first
        | (refine wpList_load_wr rfl _ rfl q (o + k * 129) p rfl hrg.out ?_)
        | (refine wpList_store_wr rfl _ _ rfl rfl wr.heap.size p rfl rfl zw HNEW.out ?_; intro w5 hb5 hg5))
      obtain ⟨a, x⟩ := p
      simp only at hat
      have hatI : (a : Int) < (s.st.length : Int) := by omega
      have hg5' : Hid (wr.grownBy w5 none) := by
        have h0 : (wr.alloc (.cells (wrC zw).toArray 112)).grownBy w5 (some wr.heap.size) := hg5
        exact ⟨h0.os, h0.tape, h0.output, Nat.le_trans (by simp) h0.size, fun i hi _ => (h0.block i (by simp; omega) (fun e => by have := Option.some.inj e; omega)).trans ((World.grownBy_alloc wr _ none).block i hi (fun e => by cases e))⟩
      have HG5 : Hid (w.grownBy w5 (some g)) := grown_trans HG.out (⟨hg5'.out.os, hg5'.out.tape, hg5'.out.output, hg5'.out.size, fun i hi _ => hg5'.out.block i hi (fun e => by cases e)⟩)
      have HS5 : Hid (Stb w5 g (Dv.put s.st (l.take k))) := HS.out.grown hg5'.out (fun e => by cases e)
      obtain ⟨wd, hwd⟩ : ∃ wd, wd = w5.drew := ⟨_, rfl⟩
      have q1 : wd.cell? ⟨b, 1, none⟩ = some (.slice (some ⟨g, 0, none⟩) s.st.length c) := by
        rw [hwd]; exact (World.cell?_of_block (w := wr) (a := ⟨b, 1, none⟩) (hg5'.out.block b (block_lt_of_cell hb1) (fun e => by cases e))).trans hb1
      have q2 : wd.cell? ⟨wr.heap.size, 0, none⟩ = some (.int .i64 (a : Int)) := by rw [hwd]; exact hb5.cell 0 rfl
      have hrr : wd.rangeAt wr.heap.size 1 (secC x) := by rw [hwd]; have := range_tail (o := 0) (cs := secC x) (v := .int .i64 (a : Int)) (Blk.range hb5); rwa [Nat.zero_add] at this
      have HRR := Lib.hid hrr
      have HSD : Hid (Stb wd g (Dv.put s.st (l.take k))) := by rw [hwd]; exact HS5.out.of_block rfl
      have HGD : Hid (w.grownBy wd (some g)) := by rw [hwd]; exact grown_drewN HG5.out 1
      refine wp_region_still_tail 10 (by kernel_rfl) (by kernel_rfl) ?_
      change wpStill _ _ w5.drew (fun a' => wpList _ _ _ _ a' w5.drew) _ _
      rw [← hwd]
      clear hwd hrr hb5 hg5 hg5' HG5 HS5 hb1
      simp only [List.take_succ_cons, List.take_zero, List.drop_succ_cons, List.drop_zero]
      repeat (first | (refine still_load_sec rfl _ rfl wr.heap.size 1 x rfl HRR.out ?_) | still_step)
      refine wpStill_nil ?_
      go_wp2_with (refine wpList_store_stb rfl _ _ rfl rfl g a x _ rfl rfl HSD.out (by rw [Dv.put_length]; exact hat) ?_; intro w6 hs6 hg6)
      have HS6 : Hid (Stb w6 g (Dv.put s.st (l.take (k + 1)))) := by rw [put_take hlt, ← HP.out]; exact hs6
      have HG6 := Lib.hid (grown_trans HGD.out hg6)
      clear hs6 hg6 q1 q2
      go_wp2_with fail
      go_roundw
      case rel => exact ⟨k + 1, by omega, by go_num, HS6.out, HG6.out⟩
      case measure => simp [intOf]; omega
    · obtain rfl : k = l.length := by omega
      have hltI : ¬ ((l.length : Int) < (l.length : Int)) := by omega
      rw [List.take_length] at HS
      have hb : Blk wr b (dC b g s.st.length c cv s.tk s.pw s.off m) 106 := HM.out.blk.of_block (HG.out.block b HM.out.blk.lt (fun e => HM.out.ne_bg (Option.some.inj e)))
      have hc6 : wr.cell? ⟨b, 6, none⟩ = some (.map (some m)) := hb.cell 6 rfl
      have hf2 : wr.frozen? ⟨b, 2, none⟩ = false := hb.free 2
      have hc2 : wr.cell? ⟨b, 2, none⟩ = some cv := hb.cell 2 rfl
      have HBS := Lib.hid (hb.set 2 (.slice none 0 0))
      obtain ⟨D, hD, _⟩ := HM.out.nw
      have HD : Hid ((wr.setCell ⟨b, 2, none⟩ (.slice none 0 0)).ownsMap Tryd.prog 3 pl m s.ca.length D) := by
        have h1 := ownsMap_of_block hD (HG.out.block m (HM.out.lt (by simp [foot])) (fun e => HM.out.ne_gm (Option.some.inj e).symm))
        exact h1.kept (grown_setCell wr b 2 _) (fun e => HM.out.ne_bm (Option.some.inj e).symm)
      clear hb hD
      go_wp2_with (refine wpList_clear rfl _ rfl m _ D rfl HD.out ?_; intro w6 hm6 hg6)
      refine bodyPost_end (results_none rfl _ _ _) rfl ?_
      have hst := (HS.out.grown (grown_setCell wr b 2 (.slice none 0 0)) (fun e => HM.out.ne_bg (Option.some.inj e).symm)).grown hg6 (fun e => HM.out.ne_gm (Option.some.inj e))
      have hbk := HBS.out.grown hg6 (fun e => HM.out.ne_bm (Option.some.inj e))
      have hfr : Fr w w6 [b, g, m] := ((Fr.of_grown (F := [b, g, m]) HG.out (by simp)).trans (Fr.of_grown (F := [b]) (grown_setCell wr b 2 (.slice none 0 0)) (by simp)) (by simp)).trans (Fr.of_grown (F := [m]) hg6 (by simp)) (by simp)
      refine ⟨rfl, ⟨?_, hst, by rw [show (Dv.settle s l).st = Dv.put s.st l from rfl, Dv.put_length]; exact HM.out.cap, World.ownsRow_nil _ _ _ _, ⟨_, hm6, NW.nil⟩, HM.out.ok.settle l⟩, hfr⟩
      have hl2 : (Dv.settle s l).st.length = s.st.length := Dv.put_length s.st l
      rw [hl2]
      exact hbk
end Go.Proofs.YtiddbdjcdoiloaaDoor

/- The law DeviceReads: it is true. Condition: a slice that holds the writes. -/
import Derived.Test.YtipffdjdfobaoaaPut
namespace Go.Proofs.Ytipffdjdfobaoaa
open Go.RowKit Go.Maps

theorem uWant : Try.prog.underlying 51 = some (.array 64 50) := by kernel_rfl
theorem zeroWant (w : World) : (zeroValue 51).run Try.prog w = .ok (.agg ((List.replicate 64 Dv.zeroS).flatMap secC).toArray) w := by kernel_rfl
/-- A box that holds 64 sectors. -/
structure Wnt (w : World) (g : Nat) (st : List Dv.Sec) : Prop where
  blk : ∃ cs, Blk w g cs 51
  at_ : ∀ i (h : i < st.length), w.rangeAt g (i * 128) (secC st[i])
section
variable {w w' : World} {g : Nat} {st : List Dv.Sec}
theorem Wnt.lt (h : Wnt w g st) : g < w.heap.size := by obtain ⟨cs, h⟩ := h.blk; exact h.lt
theorem Wnt.of_block (h : Wnt w g st) (he : w'.heap[g]? = w.heap[g]?) : Wnt w' g st := by
  obtain ⟨⟨cs, hb⟩, ha⟩ := h
  exact ⟨⟨cs, hb.of_block he⟩, fun i hi j v hv => (World.cell?_of_block (a := ⟨g, _, none⟩) he).trans (ha i hi j v hv)⟩
theorem Wnt.below (h : Wnt w g st) (hb : Below w.heap.size w w') : Wnt w' g st := h.of_block (hb.block g h.lt)
theorem Wnt.there (h : Wnt w g st) (i : Nat) (hi : i < st.length) : w.there g (i * 128) 128 := fun j hj => by
  obtain ⟨cs, hb⟩ := h.blk
  have hl := secC_len st[i]
  have := h.at_ i hi j _ (List.getElem?_eq_getElem (by omega : j < (secC st[i]).length))
  exact ⟨by rw [this]; rfl, hb.free _⟩
theorem Wnt.store (h : Wnt w g st) (i : Nat) (hi : i < st.length) (x : Dv.Sec) : Wnt (w.setCells g (i * 128) (secC x)) g (st.set i x) := by
  obtain ⟨cs, hb⟩ := h.blk
  refine ⟨blk_setCells g _ _ _ _ hb, fun k hk => ?_⟩
  have hl := secC_len x
  by_cases e : k = i
  · subst e
    rw [List.getElem_set_self]
    exact World.rangeAt_setCells_same _ _ _ _ (by rw [hl]; exact h.there k hi)
  · rw [List.getElem_set_ne (by omega)]
    have hk' : k < st.length := by simpa using hk
    have hl2 := secC_len st[k]
    refine World.rangeAt_setCells_apart (h.at_ k hk') g _ _ (.inr ?_)
    rw [hl, hl2]
    rcases Nat.lt_or_gt_of_ne e with h | h
    · left; omega
    · right; omega
end
theorem flatS_get (P : List Dv.Sec) : ∀ (i : Nat) (h : i < P.length) (j : Nat) (_ : j < 128), (P.flatMap secC)[i * 128 + j]? = (secC P[i])[j]? := by
  induction P with
  | nil => intro i h; simp at h
  | cons f fs ih =>
    intro i h j hj
    have hl := secC_len f
    rw [List.flatMap_cons]
    cases i with
    | zero => rw [Nat.zero_mul, Nat.zero_add, List.getElem?_append_left (by omega)]; rfl
    | succ i =>
      rw [List.getElem?_append_right (by omega), show (i + 1) * 128 + j - (secC f).length = i * 128 + j by omega]
      exact ih i (by simpa using h) j hj
theorem Wnt.new {w : World} {g : Nat} {st : List Dv.Sec} (h : Blk w g (st.flatMap secC).toArray 51) : Wnt w g st :=
  ⟨⟨_, h⟩, fun i hi j v hv => by
    have hj : j < 128 := by have := (List.getElem?_eq_some_iff.1 hv).1; rw [secC_len] at this; exact this
    exact h.cell _ (by rw [List.getElem?_toArray, flatS_get st i hi j hj]; exact hv)⟩
theorem quiet_load_mid {w : World} {g o : Nat} {v : Dv.Sec} (hr : w.rangeAt g o (secC v)) {op : Oper} {a : Act} {K : Act → Prop} (x : Operand) (ho : op.op = .load 50 x) (hx : a.eval x = .pointer (some ⟨g, o, none⟩)) (h : K (a.put op.dst (.agg (secC v).toArray))) :
    Oper.quiet Try.prog op a (fun w' => ∃ p : Regrown, w' = Go.Sort.grow (redrawn w p.d) p.os) K := by
  refine ⟨_, fun W hW => ?_, h⟩
  obtain ⟨p, rfl⟩ := hW
  unfold Oper.quietAt execOp
  simp only [ho, hx, Instr.loadAt, Instr.sureAddr, Sem.run_bind, Sem.run_pure, Result.andThen_ok, run_loadVar_mid _ g o 50 (secC v) _ (range_regrown hr p.d p.os) uSec rfl (by rw [iSec, secC_len])]
  exact ⟨rfl, rfl⟩
theorem range_below {W w' : World} {p o : Nat} {cs : List Value} (h : W.rangeAt p o cs) (hb : Below W.heap.size W w') : w'.rangeAt p o cs := fun j v hv => (hb.cell (p := ⟨p, _, none⟩) (block_lt_of_cell (h j v hv))).trans (h j v hv)
theorem idx_mod (x : UInt8) : (x.toNat : Int).tmod 64 = ((x.toNat % 64 : Nat) : Int) := by
  rw [Int.tmod_eq_emod_of_nonneg (by omega)]; omega
theorem want_gen : ∃ zc : Array Value, (∀ w, (zeroValue 51).run Try.prog w = .ok (.agg zc) w) ∧ ∀ (w : World) (g : Nat), Blk w g zc 51 → Wnt w g (List.replicate 64 Dv.zeroS) :=
  ⟨_, zeroWant, fun _ _ h => Wnt.new h⟩
/-- What the law wants. -/
def wantL (l : List Pt) : List Dv.Sec := Dv.put (List.replicate 64 Dv.zeroS) (l.map Pt.wr)
theorem wantL_len (l : List Pt) : (wantL l).length = 64 := by unfold wantL; rw [Dv.put_length]; simp
theorem wantL_succ (l : List Pt) (k : Nat) (h : k < l.length) : wantL (l.take (k + 1)) = (wantL (l.take k)).set (l[k].at_.toNat % 64) (Dv.filled l[k].at_ l[k].b) := by
  unfold wantL
  rw [List.take_succ_eq_append_getElem h, List.map_append, List.map_singleton, Dv.put_snoc]; rfl
theorem wantL_at (l : List Pt) (n : Nat) (hn : n < 64) : Dv.readF ((putL (List.replicate 64 Dv.zeroS, []) l).1.getD n Dv.zeroS) n (putL (List.replicate 64 Dv.zeroS, []) l).2 = (wantL l)[n]'(by rw [wantL_len]; exact hn) := by
  rw [putL_read _ l n (by simpa using hn)]
  have h := Dv.put_get (List.replicate 64 Dv.zeroS) n (by simpa using hn) (l.map Pt.wr)
  have h2 : (wantL l).getD n Dv.zeroS = (wantL l)[n]'(by rw [wantL_len]; exact hn) := by simp [List.getD_eq_getElem?_getD, List.getElem?_eq_getElem (show n < (wantL l).length by rw [wantL_len]; exact hn)]
  rw [← h2]
  exact h.symm
set_option maxRecDepth 100000 in
set_option maxHeartbeats 8000000 in
theorem law_reads (w : World) (v : Value) (l : List Pt) (hv : PL w v l) (hl : l.length ≤ 9223372036854775807) :
    Calls Try.prog 5 #[v] w fun e w' => e = .returned (.bool true) ∧ Below w.heap.size w w' := by
  obtain ⟨A, c0, rfl⟩ := hv.form
  have HV := Lib.hid hv
  clear hv
  by_cases h100 : 100 < l.length
  · have h100I : (100 : Int) < (l.length : Int) := by omega
    go_enter Try.func5, Try.ntmps5
    go_wp2_with fail
    refine (awake_any _).mono ?_
    rintro e w' ⟨rfl, hb⟩
    have HB := Lib.hid hb
    clear hb
    go_wp2_with fail
    go_ret
    exact ⟨rfl, HB.out⟩
  have h100I : ¬ (100 : Int) < (l.length : Int) := by omega
  obtain ⟨z, _, hz, _⟩ := zero_gen
  obtain ⟨zc, hzc, hwant⟩ := want_gen
  have HWN := Lib.hid hwant
  have HN := Lib.hid (new_step w 64 64 rfl (by omega) (by omega))
  obtain ⟨st, hst⟩ : ∃ st, st = List.replicate 64 Dv.zeroS := ⟨_, rfl⟩
  have hsl : st.length = 64 := by rw [hst]; simp
  have HL := Lib.hid hsl
  have HST := Lib.hid hst
  rw [← hst] at HN
  clear hst hsl hwant
  go_enter Try.func5, Try.ntmps5
  go_wp2_with fail
  refine HN.out.mono ?_
  rintro e w1 ⟨b, F1, rfl, ho⟩
  have O1 := Lib.hid ho
  clear ho HN
  go_wp2_with fail
  refine (put_any w w1 b F1 st [] 0 O1.out _ l HV.out HL.out (by simp; omega) (by omega)).mono ?_
  rintro e w2 ⟨rfl, F2, ho, _, _⟩
  have O2 := Lib.hid ho
  clear ho O1
  go_wp2_with fail
  have hg : Hid (w2.heap.size ∉ F2) := fun hm => by have := O2.out.dev.lt hm; omega
  have HW0 : Hid (Wnt (w2.alloc (.cells zc 51)) w2.heap.size (wantL [])) := HWN.out _ _ (Blk.new w2 zc _)
  have O3 := Lib.hid (O2.out.alloc (.cells zc 51))
  have hgw := O2.out.bel.size
  obtain ⟨w3, hw3⟩ : ∃ w3, w3 = w2.alloc (.cells zc 51) := ⟨_, rfl⟩
  obtain ⟨g, hgg⟩ : ∃ g, g = w2.heap.size := ⟨_, rfl⟩
  rw [← hw3] at HW0 O3 ⊢
  rw [← hgg] at HW0 hg hgw ⊢
  clear O2 hw3 hgg
  go_loopw [6] (fun i wr => ∃ k : Nat, k ≤ l.length ∧ i = .int .i64 k ∧ Hid (Wnt wr g (wantL (l.take k))) ∧ Hid (w3.grownBy wr (some g))) (fun i _ => l.length - (intOf i).toNat)
  case atStart => exact ⟨0, by omega, rfl, HW0.out, grown_refl _ _⟩
  case round =>
    obtain ⟨k, hk, rfl, HW, HG⟩ := hrel
    by_cases hlt : k < l.length
    · have hltI : (k : Int) < (l.length : Int) := by omega
      obtain ⟨q, o, hA, hcc⟩ := HV.out.at (by omega)
      subst hA
      obtain ⟨h1, h2, _⟩ := hcc k hlt
      have hql := block_lt_of_cell h1
      simp only at hql
      have hqg : q ≠ g := by omega
      have hbw : Below w.heap.size w wr := below_grown O3.out.bel HG.out O3.out.bel.size hgw
      obtain ⟨p, hp⟩ : ∃ p, p = l[k] := ⟨_, rfl⟩
      have hsu := wantL_succ l k hlt
      rw [← hp] at h1 h2 hsu
      obtain ⟨pa, pb, pf⟩ := p
      simp only at h1 h2 hsu
      have hm64 : pa.toNat % 64 < 64 := Nat.mod_lt _ (by omega)
      have hix := idx_mod pa
      obtain ⟨m, hm⟩ : ∃ m, m = pa.toNat % 64 := ⟨_, rfl⟩
      obtain ⟨x, hx⟩ : ∃ x, x = Dv.filled pa pb := ⟨_, rfl⟩
      rw [← hm] at hm64 hix hsu
      rw [← hx] at hsu
      have HSU := Lib.hid hsu
      have hmI : (m : Int) < 64 := by omega
      have HWL : Hid ((wantL (l.take k)).length = 64) := wantL_len _
      have hcs : ∀ W, Below w.heap.size w W → W.cell? ⟨q, o + k * 3, none⟩ = some (.int .u8 (pa.toNat : Int)) ∧ W.cell? ⟨q, o + k * 3 + 1, none⟩ = some (.int .u8 (pb.toNat : Int)) := fun W hW => ⟨(hW.cell (p := ⟨q, _, none⟩) hql).trans h1, (hW.cell (p := ⟨q, _, none⟩) hql).trans h2⟩
      have HCS := Lib.hid hcs
      have HF : Hid (∀ W, Calls Try.prog 22 #[.int .u8 (pa.toNat : Int), .int .u8 (pb.toNat : Int)] W fun e w' => e = .returned (.agg (secC x).toArray) ∧ Below W.heap.size W w') := fun W => by rw [hx]; exact filled_any W pa pb
      have HBW := Lib.hid hbw
      have c1 := hcs wr.drew (below_drewN hbw 1)
      have t1 : wr.drew.there g (m * 128) 128 := (HW.out.of_block (w' := wr.drew) rfl).there m (by rw [HWL.out]; exact hm64)
      have hS0 : wr.drew.cell? ⟨q, o + k * 3, none⟩ = some (.int .u8 (pa.toNat : Int)) ∧ wr.drew.cell? ⟨q, o + k * 3 + 1, none⟩ = some (.int .u8 (pb.toNat : Int)) ∧ wr.drew.there g (m * 128) 128 := ⟨c1.1, c1.2, t1⟩
      have u1 : Try.prog.underlying 50 = some (.array 128 5) := uSec
      have u2 : (Try.prog.info? 50).map (·.size) = some (secC x).length := by rw [iSec, secC_len]
      have u3 : (secC x).length = 128 := secC_len x
      have u4 : ∀ v ∈ secC x, v.oneCell' = true := secC_one x
      clear hcc h1 h2 hp hsu hm hx hcs hbw c1 t1 hql
      go_wp2_with fail
      first
      | (go_region_held (fun w' => w'.cell? ⟨q, o + k * 3, none⟩ = some (.int .u8 (pa.toNat : Int)) ∧ w'.cell? ⟨q, o + k * 3 + 1, none⟩ = some (.int .u8 (pb.toNat : Int)) ∧ w'.there g (m * 128) 128) (assumption)
          ((go_at_call 22; refine (HF.out _).mono ?_; rintro e w5 ⟨rfl, hb5⟩; have HW5 := Lib.hid ((HW.out.of_block (w' := wr.drew) rfl).below hb5); have HB5 := Lib.hid hb5; have hbw5 : Below w.heap.size w w5 := (below_drewN HBW.out 1).trans (hb5.mono HBW.out.size); have hbw6 : Below w.heap.size w (w5.setCells g (m * 128) (secC x)) := below_grown hbw5 (grown_setCells g _ _ _) hbw5.size hgw; have c5 := HCS.out w5 hbw5; have c6 := HCS.out _ hbw6; have s5 : w5.cell? ⟨q, o + k * 3, none⟩ = some (.int .u8 (pa.toNat : Int)) ∧ w5.cell? ⟨q, o + k * 3 + 1, none⟩ = some (.int .u8 (pb.toNat : Int)) ∧ w5.there g (m * 128) 128 := ⟨c5.1, c5.2, HW5.out.there m (by rw [HWL.out]; exact hm64)⟩; have s6 : (w5.setCells g (m * 128) (secC x)).cell? ⟨q, o + k * 3, none⟩ = some (.int .u8 (pa.toNat : Int)) ∧ (w5.setCells g (m * 128) (secC x)).cell? ⟨q, o + k * 3 + 1, none⟩ = some (.int .u8 (pb.toNat : Int)) ∧ (w5.setCells g (m * 128) (secC x)).there g (m * 128) 128 := ⟨c6.1, c6.2, (HW5.out.store m (by rw [HWL.out]; exact hm64) x).there m (by rw [List.length_set, HWL.out]; exact hm64)⟩; clear hb5 hbw5 hbw6 c5 c6)))
      | fail
      have HW6 : Hid (Wnt (w5.setCells g (m * 128) (secC x)) g (wantL (l.take (k + 1)))) := by rw [HSU.out]; exact HW5.out.store m (by rw [HWL.out]; exact hm64) x
      have HG6 : Hid (w3.grownBy (w5.setCells g (m * 128) (secC x)) (some g)) := grown_trans (grown_trans (grown_drewN HG.out 1) (grown_below (w := wr.drew) HB5.out (some g))) (grown_setCells g _ _ _)
      clear hS0 s5 s6 u1 u2 u3 u4 HW5 HB5
      go_wp2_with fail
      go_roundw
      case rel => exact ⟨k + 1, by omega, by go_num, HW6.out, HG6.out⟩
      case measure => simp [intOf]; omega
    · obtain rfl : k = l.length := by omega
      rw [List.take_length] at HW
      have hltI : ¬ ((l.length : Int) < (l.length : Int)) := by omega
      obtain ⟨wx, hwx⟩ : ∃ wx, wx = wr := ⟨_, rfl⟩
      subst hwx
      have hfr : Fr w3 wx [g] := Fr.of_grown HG.out (by simp)
      have O4 : Hid (Own w wx b F2 _) := ⟨O3.out.dev.fr hfr (fun i hi hm => hg.out (by obtain rfl := List.mem_singleton.1 hm; exact hi)), below_grown O3.out.bel HG.out O3.out.bel.size hgw, O3.out.new⟩
      have HP := putL_len (st, []) l
      have HPL := Lib.hid (HP.1.trans HL.out)
      have HWA : Hid (∀ n (hn : n < 64), Dv.readF ((putL (st, []) l).1.getD n Dv.zeroS) n (putL (st, []) l).2 = (wantL l)[n]'(by rw [wantL_len]; exact hn)) := fun n hn => by rw [HST.out]; exact wantL_at l n hn
      clear hfr HP O3 hg HW0
      go_wp2_with fail
      go_loopw [7] (fun i wr => ∃ n : Nat, n ≤ 64 ∧ i = .int .i64 n ∧ Hid (Below wx.heap.size wx wr)) (fun i _ => 64 - (intOf i).toNat)
      case atStart => exact ⟨0, by omega, rfl, Below.refl _ _⟩
      case round =>
        obtain ⟨n, hn, rfl, HB⟩ := hrel
        by_cases hlt : n < 64
        · have hltI : (n : Int) < 64 := by omega
          obtain ⟨x, hx⟩ : ∃ x, x = (wantL l)[n]'(by rw [wantL_len]; exact hlt) := ⟨_, rfl⟩
          have O5 := Lib.hid (O4.out.below HB.out)
          have HW5 := Lib.hid (HW.out.below HB.out)
          have hxx := HWA.out n hlt
          rw [← hx] at hxx
          have HXX := Lib.hid hxx
          have hrg : Hid (wr.rangeAt g (n * 128) (secC x)) := by rw [hx]; exact HW5.out.at_ n (by rw [wantL_len]; exact hlt)
          have hvx : secV x = .agg (secC x).toArray := rfl
          clear hx hxx
          go_wp2_with fail
          refine (rd_step O5.out _ n x rfl (by rw [HPL.out]; exact hlt) HXX.out).mono ?_
          rintro e w6 ⟨rfl, hb⟩
          have HB6 := Lib.hid hb
          have HBL6 := Lib.hid (Blk.new w6 (secC z).toArray 50)
          have hrg6 : Hid (w6.rangeAt g (n * 128) (secC x)) := range_below hrg.out hb
          rw [hvx]
          clear hb
          go_wp2_with (refine wpList_store_sec rfl _ _ rfl rfl w6.heap.size x rfl rfl z HBL6.out ?_; intro w7 hb7 hg7)
          have hbe : Below w6.heap.size w6 w7 := ((Below.refl _ _).alloc (Nat.le_refl _) _).grown hg7 (by simp) (fun k hk => by cases hk; exact Nat.le_refl _)
          have r1 := Lib.hid (Blk.range hb7)
          have r2 := Lib.hid (range_below hrg6.out hbe)
          have HB7 : Hid (Below wx.heap.size wx w7) := HB.out.trans ((HB6.out.mono HB.out.size).trans (hbe.mono (Nat.le_trans HB.out.size HB6.out.size)))
          have hne1 : ∀ w, (binOp .neq 50 (.agg (secC x).toArray) (.agg (secC x).toArray)).run Try.prog w = .ok (.bool false) w := fun w => by rw [neq_sec]; simp
          obtain ⟨p8, hp8⟩ : ∃ p, p = w6.heap.size := ⟨_, rfl⟩
          rw [← hp8] at r1 ⊢
          clear hb7 hg7 hbe hp8 HB6 HBL6 hrg6
          refine wp_region_quiet_below (by kernel_rfl) (by kernel_rfl) ?_
          iterate 3 (go_big_quiet_step (fail))
          go_big_quiet_want
          refine quiet_load_mid r1.out _ rfl rfl ?_
          go_simp
          go_big_quiet_on
          iterate 2 (go_big_quiet_step (fail))
          go_big_quiet_want
          refine quiet_load_mid r2.out _ rfl rfl ?_
          go_simp
          go_big_quiet_on
          iterate 2 (go_big_quiet_step (fail))
          refine wpQuiet_nil ?_
          rintro w' ⟨pp, rfl⟩
          have HB8 : Hid (Below wx.heap.size wx (Go.Sort.grow (redrawn w7 pp.d) pp.os)) := HB7.out.trans ((below_regrown w7 pp.d pp.os).mono HB7.out.size)
          go_wp2_with fail
          go_roundw
          case rel => first | exact ⟨n + 1, by omega, by go_num, HB8.out⟩ | exact ⟨_, _, _, ⟨n + 1, by omega, rfl, HB8.out⟩, by go_num, rfl, rfl⟩
          case measure => simp [intOf]; omega
        · obtain rfl : n = 64 := by omega
          have O5 := Lib.hid (O4.out.below HB.out)
          go_wp2_with fail
          refine (taken_dev O5.out.dev).mono ?_
          rintro e w' ⟨rfl, rfl⟩
          rw [show (((sAw (putL (st, []) l).1 (putL (st, []) l).2 (0 + l.length)).tk : Nat) : Int) = (l.length : Int) by show ((0 + l.length : Nat) : Int) = _; omega]
          go_wp2_with fail
          refine (awake_any _).mono ?_
          rintro e w' ⟨rfl, hb⟩
          have HFIN : Hid (Below w.heap.size w w') := O5.out.bel.trans (hb.mono O5.out.bel.size)
          clear hb
          go_wp2_with fail
          go_ret
          exact ⟨rfl, HFIN.out⟩
end Go.Proofs.Ytipffdjdfobaoaa

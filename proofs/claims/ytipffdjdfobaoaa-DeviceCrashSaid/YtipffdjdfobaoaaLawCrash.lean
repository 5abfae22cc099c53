/- The law DeviceCrash: it is true. Condition: slices that hold the writes and the bytes. -/
import Derived.Test.YtipffdjdfobaoaaCrashed
namespace Go.Proofs.Ytipffdjdfobaoaa
open Go.RowKit Go.Maps

set_option maxRecDepth 100000 in
set_option maxHeartbeats 8000000 in
theorem law_crash (w : World) (v kv : Value) (l : List Pt) (y : List UInt8) (hv : PL w v l) (hl : l.length ≤ 9223372036854775807) (hy : SL encB w w.heap.size kv y) (hyl : y.length ≤ 9223372036854775807) :
    Calls Try.prog 6 #[v, kv] w fun e w' => e = .returned (.bool true) ∧ Below w.heap.size w w' := by
  obtain ⟨A, c0, rfl⟩ := hv.form
  obtain ⟨AY, cy, rfl⟩ := hy.form
  have HV := Lib.hid hv
  have HY := Lib.hid hy
  clear hv hy
  by_cases h100 : 100 < l.length
  · have h100I : (100 : Int) < (l.length : Int) := by omega
    go_enter Try.func6, Try.ntmps6
    go_wp2_with fail
    refine (awake_any _).mono ?_
    rintro e w' ⟨rfl, hb⟩
    have HB := Lib.hid hb
    clear hb
    go_wp2_with fail
    go_ret
    exact ⟨rfl, HB.out⟩
  have h100I : ¬ (100 : Int) < (l.length : Int) := by omega
  obtain ⟨z, _, hz, _⟩ := zero_gen
  obtain ⟨zc, hzc, hwant⟩ := want_gen
  have HWN := Lib.hid hwant
  have HN := Lib.hid (new_step w 64 64 rfl (by omega) (by omega))
  obtain ⟨st, hst⟩ : ∃ st, st = List.replicate 64 Dv.zeroS := ⟨_, rfl⟩
  have hsl : st.length = 64 := by rw [hst]; simp
  have HL := Lib.hid hsl
  rw [← hst] at HN HWN
  clear hst hsl hwant
  go_enter Try.func6, Try.ntmps6
  go_wp2_with fail
  refine HN.out.mono ?_
  rintro e w1 ⟨b, F1, rfl, ho⟩
  have O1 := Lib.hid ho
  clear ho HN
  go_wp2_with fail
  refine (put_any w w1 b F1 st [] 0 O1.out _ l HV.out HL.out (by simp; omega) (by omega)).mono ?_
  rintro e w2 ⟨rfl, F2, ho, _, _⟩
  have O2 := Lib.hid ho
  clear ho O1
  go_wp2_with fail
  have hg : Hid (w2.heap.size ∉ F2) := fun hm => by have := O2.out.dev.lt hm; omega
  have HW0 : Hid (Wnt (w2.alloc (.cells zc 51)) w2.heap.size st) := HWN.out _ _ (Blk.new w2 zc _)
  have O3 := Lib.hid (O2.out.alloc (.cells zc 51))
  have hgw := O2.out.bel.size
  obtain ⟨w3, hw3⟩ : ∃ w3, w3 = w2.alloc (.cells zc 51) := ⟨_, rfl⟩
  obtain ⟨g, hgg⟩ : ∃ g, g = w2.heap.size := ⟨_, rfl⟩
  have hg3 : Hid (g < w3.heap.size) := by rw [hw3, hgg]; simp [Hid]
  rw [← hw3] at HW0 O3 ⊢
  rw [← hgg] at HW0 hg hgw ⊢
  clear O2 hw3 hgg
  go_loopw [7, 9] (fun t i wr => ∃ k tt : Nat, k ≤ l.length ∧ i = .int .i64 k ∧ t = .int .i64 tt ∧ Hid (LastAt st (l.take k) tt) ∧ w3 = wr) (fun _ i _ => l.length - (intOf i).toNat)
  case atStart => exact ⟨0, 0, by omega, rfl, rfl, LastAt.nil st, rfl⟩
  case round =>
    obtain ⟨k, tt, hk, rfl, rfl, HT, rfl⟩ := hrel
    by_cases hlt : k < l.length
    · have hltI : (k : Int) < (l.length : Int) := by omega
      obtain ⟨q, o, hA, hcc⟩ := HV.out.at (by omega)
      subst hA
      obtain ⟨h1, _, h3⟩ := hcc k hlt
      have c3 := (O3.out.bel.cell (p := ⟨q, _, none⟩) (block_lt_of_cell h3)).trans h3
      cases hf : l[k].f
      · rw [hf] at c3
        have HT2 := Lib.hid (HT.out.stay hlt hf)
        clear hcc h1 h3 hf
        go_wp2_with fail
        go_roundw
        case rel => exact ⟨k + 1, tt, by omega, by go_num, rfl, HT2.out, by first | rfl | trivial⟩
        case measure => simp [intOf]; omega
      · rw [hf] at c3
        have HT2 := Lib.hid (HT.out.flush hlt hf)
        clear hcc h1 h3 hf
        go_wp2_with fail
        go_roundw
        case rel => exact ⟨k + 1, k + 1, by omega, by go_num, by go_num, HT2.out, by first | rfl | trivial⟩
        case measure => simp [intOf]; omega
    · obtain rfl : k = l.length := by omega
      rw [List.take_length] at HT
      have hltI : ¬ ((l.length : Int) < (l.length : Int)) := by omega
      have htl := HT.out.1
      go_wp2_with fail
      go_loopw [10, 11] (fun kp i wr => ∃ (k : Nat) (K : List Nat), k ≤ l.length ∧ i = .int .i64 k ∧ Hid (Up K (k - tt)) ∧ Hid (OK wr w3.heap.size kp K) ∧ Hid (Wnt wr g (Dv.put (Dv.put st ((l.take (min k tt)).map Pt.wr)) (K.map fun j => ((l.drop tt).map Pt.wr).getD j (0, Dv.zeroS)))) ∧ Hid (Fr w3 wr [g])) (fun _ i _ => l.length - (intOf i).toNat)
      case atStart => exact ⟨0, [], by omega, rfl, Up.nil _, World.ownsRow_nil _ _ _ _, by rw [Nat.zero_min]; exact HW0.out, Fr.refl _ _⟩
      case round =>
        obtain ⟨k, K, hk, rfl, HU, HK, HW, HFR⟩ := hrel
        by_cases hlt : k < l.length
        · have hltI : (k : Int) < (l.length : Int) := by omega
          /- round -/
          obtain ⟨q, o, hA, hcc⟩ := HV.out.at (by omega)
          subst hA
          obtain ⟨h1, h2, _⟩ := hcc k hlt
          have hql := block_lt_of_cell h1
          simp only at hql
          have hbw : Below w.heap.size w wr := HFR.out.below O3.out.bel O3.out.bel.size (fun i hi => by obtain rfl := List.mem_singleton.1 hi; exact hgw)
          obtain ⟨p, hp⟩ : ∃ p, p = l[k] := ⟨_, rfl⟩
          have HPK := Lib.hid hp
          rw [← hp] at h1 h2
          obtain ⟨pa, pb, pf⟩ := p
          simp only at h1 h2
          have hm64 : pa.toNat % 64 < 64 := Nat.mod_lt _ (by omega)
          have hix := idx_mod pa
          obtain ⟨m, hm⟩ : ∃ m, m = pa.toNat % 64 := ⟨_, rfl⟩
          obtain ⟨x, hx⟩ : ∃ x, x = Dv.filled pa pb := ⟨_, rfl⟩
          have HWR : Hid (l[k].wr = (m, x)) := by rw [← hp, hm, hx]; rfl
          rw [← hm] at hm64 hix
          have hmI : (m : Int) < 64 := by omega
          obtain ⟨WL, hWL⟩ : ∃ WL, WL = Dv.put (Dv.put st ((l.take (min k tt)).map Pt.wr)) (K.map fun j => ((l.drop tt).map Pt.wr).getD j (0, Dv.zeroS)) := ⟨_, rfl⟩
          have HWL : Hid (WL.length = 64) := by rw [hWL, Dv.put_length, Dv.put_length]; exact HL.out
          rw [← hWL] at HW
          have HWE := Lib.hid hWL
          have hcs : ∀ W, Below w.heap.size w W → W.cell? ⟨q, o + k * 3, none⟩ = some (.int .u8 (pa.toNat : Int)) ∧ W.cell? ⟨q, o + k * 3 + 1, none⟩ = some (.int .u8 (pb.toNat : Int)) := fun W hW => ⟨(hW.cell (p := ⟨q, _, none⟩) hql).trans h1, (hW.cell (p := ⟨q, _, none⟩) hql).trans h2⟩
          have HCS := Lib.hid hcs
          have HF : Hid (∀ W, Calls Try.prog 22 #[.int .u8 (pa.toNat : Int), .int .u8 (pb.toNat : Int)] W fun e w' => e = .returned (.agg (secC x).toArray) ∧ Below W.heap.size W w') := fun W => by rw [hx]; exact filled_any W pa pb
          have HBW := Lib.hid hbw
          have c1 := hcs wr.drew (below_drewN hbw 1)
          have t1 : wr.drew.there g (m * 128) 128 := (HW.out.of_block (w' := wr.drew) rfl).there m (by rw [HWL.out]; exact hm64)
          have hS0 : wr.drew.cell? ⟨q, o + k * 3, none⟩ = some (.int .u8 (pa.toNat : Int)) ∧ wr.drew.cell? ⟨q, o + k * 3 + 1, none⟩ = some (.int .u8 (pb.toNat : Int)) ∧ wr.drew.there g (m * 128) 128 := ⟨c1.1, c1.2, t1⟩
          have u1 : Try.prog.underlying 50 = some (.array 128 5) := uSec
          have u2 : (Try.prog.info? 50).map (·.size) = some (secC x).length := by rw [iSec, secC_len]
          have u3 : (secC x).length = 128 := secC_len x
          have u4 : ∀ v ∈ secC x, v.oneCell' = true := secC_one x
          obtain ⟨KA, kc, rfl⟩ := HK.out.form
          clear hcc h1 h2 hp hm hx hcs hbw c1 t1 hql hWL
          by_cases hkt : k < tt
          · have h0 : (k : Int) - (tt : Int) < 0 := by omega
            go_wp2_with fail
            first
            | (go_region_held (fun w' => w'.cell? ⟨q, o + k * 3, none⟩ = some (.int .u8 (pa.toNat : Int)) ∧ w'.cell? ⟨q, o + k * 3 + 1, none⟩ = some (.int .u8 (pb.toNat : Int)) ∧ w'.there g (m * 128) 128) (assumption)
                ((go_at_call 22; refine (HF.out _).mono ?_; rintro e w5 ⟨rfl, hb5⟩; have HW5 := Lib.hid ((HW.out.of_block (w' := wr.drew) rfl).below hb5); have HB5 := Lib.hid hb5; have hbw5 : Below w.heap.size w w5 := (below_drewN HBW.out 1).trans (hb5.mono HBW.out.size); have hbw6 : Below w.heap.size w (w5.setCells g (m * 128) (secC x)) := below_grown hbw5 (grown_setCells g _ _ _) hbw5.size hgw; have c5 := HCS.out w5 hbw5; have c6 := HCS.out _ hbw6; have s5 : w5.cell? ⟨q, o + k * 3, none⟩ = some (.int .u8 (pa.toNat : Int)) ∧ w5.cell? ⟨q, o + k * 3 + 1, none⟩ = some (.int .u8 (pb.toNat : Int)) ∧ w5.there g (m * 128) 128 := ⟨c5.1, c5.2, HW5.out.there m (by rw [HWL.out]; exact hm64)⟩; have s6 : (w5.setCells g (m * 128) (secC x)).cell? ⟨q, o + k * 3, none⟩ = some (.int .u8 (pa.toNat : Int)) ∧ (w5.setCells g (m * 128) (secC x)).cell? ⟨q, o + k * 3 + 1, none⟩ = some (.int .u8 (pb.toNat : Int)) ∧ (w5.setCells g (m * 128) (secC x)).there g (m * 128) 128 := ⟨c6.1, c6.2, (HW5.out.store m (by rw [HWL.out]; exact hm64) x).there m (by rw [List.length_set, HWL.out]; exact hm64)⟩; clear hb5 hbw5 hbw6 c5 c6)))
            | fail
            have HW6 : Hid (Wnt (w5.setCells g (m * 128) (secC x)) g (WL.set m x)) := HW5.out.store m (by rw [HWL.out]; exact hm64) x
            have HG5 : Hid (wr.grownBy w5 none) := grown_below (show Below wr.heap.size wr w5 from below_undrew HB5.out) none
            have HF6 : Hid (Fr w3 (w5.setCells g (m * 128) (secC x)) [g]) := (HFR.out.trans (Fr.of_grown' (F := [g]) HG5.out (fun k hk => by cases hk)) (fun i hi => .inl hi)).trans (Fr.of_grown (F := [g]) (grown_setCells g _ _ _) (by simp)) (fun i hi => .inl hi)
            have HK6 : Hid (OK (w5.setCells g (m * 128) (secC x)) w3.heap.size (.slice KA K.length kc) K) := by
              have h5 : OK w5 w3.heap.size (.slice KA K.length kc) K := World.ownsRow.kept HK.out HG5.out (by cases hv : (Value.slice KA K.length kc).ownBlock with | none => exact .inl rfl | some b => exact .inr (by simp))
              obtain ⟨cs, hcs⟩ := HW5.out.blk
              exact World.ownsRow.kept h5 (grown_setCells g _ _ _) (.inr (fun e => h5.apart hcs (by decide) e.symm))
            clear hS0 s5 s6 u1 u2 u3 u4 HW5 HB5 HG5
            have hK0 : K = [] := by
              rcases K with _ | ⟨j, r⟩
              · rfl
              · have := HU.out.2.1 j (by simp); omega
            have HWN1 : Hid (Wnt (w5.setCells g (m * 128) (secC x)) g (Dv.put (Dv.put st ((l.take (min (k + 1) tt)).map Pt.wr)) (K.map fun j => ((l.drop tt).map Pt.wr).getD j (0, Dv.zeroS)))) := by
              have h1 := HW6.out
              rw [HWE.out, hK0] at h1
              rw [hK0, show min (k + 1) tt = k + 1 by omega, List.take_succ_eq_append_getElem hlt, List.map_append, List.map_singleton, HWR.out]
              rw [show min k tt = k by omega] at h1
              show Wnt _ g (Dv.put st _)
              rw [Dv.put_snoc]
              exact h1
            clear HW6 hK0
            go_wp2_with fail
            go_roundw
            case rel => exact ⟨k + 1, K, by omega, by go_num, HU.out.mono (by omega), HK6.out, HWN1.out, HF6.out⟩
            case measure => simp [intOf]; omega
          · obtain ⟨d, hd⟩ : ∃ d, d = k - tt := ⟨_, rfl⟩
            have hdI : (k : Int) - (tt : Int) = (d : Int) := by omega
            have h0 : ¬ (d : Int) < 0 := by omega
            have hKL : Hid (K.length ≤ 1000000) := by
              exact up_len HU.out (by omega)
            have HWN1 : Hid (∀ W, Wnt W g (WL.set m x) → Wnt W g (Dv.put (Dv.put st ((l.take (min (k + 1) tt)).map Pt.wr)) ((K ++ [d]).map fun j => ((l.drop tt).map Pt.wr).getD j (0, Dv.zeroS)))) := fun W hW => by
              rw [HWE.out] at hW
              rw [show min (k + 1) tt = min k tt by omega, List.map_append, List.map_singleton]
              have e : ((l.drop tt).map Pt.wr).getD d (0, Dv.zeroS) = (m, x) := by
                rw [← HWR.out, hd]
                simp only [List.getD_eq_getElem?_getD, List.getElem?_map, List.getElem?_drop]
                rw [show tt + (k - tt) = k by omega, List.getElem?_eq_getElem hlt]; rfl
              rw [e, Dv.put_snoc]
              exact hW
            have HUP : Hid (Up (K ++ [d]) (k + 1 - tt)) := by rw [show k + 1 - tt = d + 1 by omega]; have h := HU.out; rw [← hd] at h; exact h.snoc
            obtain ⟨dq, hdq⟩ : ∃ dq, dq = d / 8 := ⟨_, rfl⟩
            obtain ⟨dr, hdr⟩ : ∃ dr, dr = d % 8 := ⟨_, rfl⟩
            have hq8 : (d : Int).tdiv 8 = (dq : Int) := by rw [Int.tdiv_eq_ediv_of_nonneg (by omega)]; omega
            have hr8 : (d : Int).tmod 8 = (dr : Int) := by rw [Int.tmod_eq_emod_of_nonneg (by omega)]; omega
            have hdr8 : dr < 8 := by omega
            have HD := Lib.hid hd
            have hdqb : dq ≤ 100 := by omega
            by_cases hdy : dq < y.length
            · obtain ⟨qy, oy, hAY, hqy, hyc⟩ := HY.out.at (by omega)
              subst hAY
              have hyd := hyc dq hdy
              have hyI : (dq : Int) < (y.length : Int) := by omega
              obtain ⟨yb, hyb⟩ : ∃ yb, yb = y[dq] := ⟨_, rfl⟩
              rw [← hyb] at hyd
              unfold encB at hyd
              have hyw : wr.cell? ⟨qy, oy + dq, none⟩ = some (.int .u8 (yb.toNat : Int)) := (HBW.out.cell (p := ⟨qy, _, none⟩) hqy).trans hyd
              clear hyc hyb hyd hdq hdr hd
              go_wp2_with fail
              all_goals first
              | (refine ⟨⟨k + 1, K, by omega, by go_num, HU.out.mono (by omega), HK.out, ?_, HFR.out⟩, (by simp [intOf]; omega)⟩; rw [show min (k + 1) tt = min k tt by omega, ← HWE.out]; exact HW.out)
              | (
                first
                | (go_region_held (fun w' => w'.cell? ⟨q, o + k * 3, none⟩ = some (.int .u8 (pa.toNat : Int)) ∧ w'.cell? ⟨q, o + k * 3 + 1, none⟩ = some (.int .u8 (pb.toNat : Int)) ∧ w'.there g (m * 128) 128) (assumption)
                    ((go_at_call 22; refine (HF.out _).mono ?_; rintro e w5 ⟨rfl, hb5⟩; have HW5 := Lib.hid ((HW.out.of_block (w' := wr.drew) rfl).below hb5); have HB5 := Lib.hid hb5; have hbw5 : Below w.heap.size w w5 := (below_drewN HBW.out 1).trans (hb5.mono HBW.out.size); have hbw6 : Below w.heap.size w (w5.setCells g (m * 128) (secC x)) := below_grown hbw5 (grown_setCells g _ _ _) hbw5.size hgw; have c5 := HCS.out w5 hbw5; have c6 := HCS.out _ hbw6; have s5 : w5.cell? ⟨q, o + k * 3, none⟩ = some (.int .u8 (pa.toNat : Int)) ∧ w5.cell? ⟨q, o + k * 3 + 1, none⟩ = some (.int .u8 (pb.toNat : Int)) ∧ w5.there g (m * 128) 128 := ⟨c5.1, c5.2, HW5.out.there m (by rw [HWL.out]; exact hm64)⟩; have s6 : (w5.setCells g (m * 128) (secC x)).cell? ⟨q, o + k * 3, none⟩ = some (.int .u8 (pa.toNat : Int)) ∧ (w5.setCells g (m * 128) (secC x)).cell? ⟨q, o + k * 3 + 1, none⟩ = some (.int .u8 (pb.toNat : Int)) ∧ (w5.setCells g (m * 128) (secC x)).there g (m * 128) 128 := ⟨c6.1, c6.2, (HW5.out.store m (by rw [HWL.out]; exact hm64) x).there m (by rw [List.length_set, HWL.out]; exact hm64)⟩; clear hb5 hbw5 hbw6 c5 c6)))
                | fail
                have HW6 : Hid (Wnt (w5.setCells g (m * 128) (secC x)) g (WL.set m x)) := HW5.out.store m (by rw [HWL.out]; exact hm64) x
                have HG5 : Hid (wr.grownBy w5 none) := grown_below (show Below wr.heap.size wr w5 from below_undrew HB5.out) none
                have HF6 : Hid (Fr w3 (w5.setCells g (m * 128) (secC x)) [g]) := (HFR.out.trans (Fr.of_grown' (F := [g]) HG5.out (fun k hk => by cases hk)) (fun i hi => .inl hi)).trans (Fr.of_grown (F := [g]) (grown_setCells g _ _ _) (by simp)) (fun i hi => .inl hi)
                have HK6 : Hid (OK (w5.setCells g (m * 128) (secC x)) w3.heap.size (.slice KA K.length kc) K) := by
                  have h5 : OK w5 w3.heap.size (.slice KA K.length kc) K := World.ownsRow.kept HK.out HG5.out (by cases hv : (Value.slice KA K.length kc).ownBlock with | none => exact .inl rfl | some b => exact .inr (by simp))
                  obtain ⟨cs, hcs⟩ := HW5.out.blk
                  exact World.ownsRow.kept h5 (grown_setCells g _ _ _) (.inr (fun e => h5.apart hcs (by decide) e.symm))
                clear hS0 s5 s6 u1 u2 u3 u4 HW5 HB5 HG5
                have hws : w3.heap.size ≤ (w5.setCells g (m * 128) (secC x)).heap.size := HF6.out.size
                obtain ⟨w6, hw6⟩ : ∃ w6, w6 = w5.setCells g (m * 128) (secC x) := ⟨_, rfl⟩
                rw [← hw6] at HW6 HF6 HK6 hws ⊢
                clear hw6
                go_wp2_with (at_builtin; refine wpList_append_k rfl _ _ rfl w3.heap.size _ K rfl (World.ownsRow.alloc HK6.out _) d w6.heap.size rfl ((Blk.new w6 _ _).cell 0 rfl) hKL.out (by simp; omega) ?_; intro v8 w8 hc8 hg8 hl8)
                have h7 : Fr w3 (w6.alloc (.cells #[.int .i64 (d : Int)] 3)) [g] := HF6.out.trans (Fr.alloc w6 _ []) (fun i hi => by cases hi)
                have HF8 : Hid (Fr w3 w8 [g]) := ⟨hg8.os.trans h7.os, hg8.tape.trans h7.tape, hg8.output.trans h7.output, Nat.le_trans h7.size hg8.size, fun i hi hn => (hg8.block i (Nat.lt_of_lt_of_le hi h7.size) (fun e => by have := hl8 i e.symm; omega)).trans (h7.block i hi hn)⟩
                have HW8 : Hid (Wnt w8 g (WL.set m x)) := by
                  have hk7 : OK (w6.alloc (.cells #[.int .i64 (d : Int)] 3)) w3.heap.size (.slice KA K.length kc) K := World.ownsRow.alloc HK6.out _
                  have hw7 : Wnt (w6.alloc (.cells #[.int .i64 (d : Int)] 3)) g (WL.set m x) := HW6.out.below ((Below.refl _ _).alloc (Nat.le_refl _) _)
                  obtain ⟨cs, hcs⟩ := hw7.blk
                  exact hw7.of_block (hg8.block g hw7.lt (hk7.apart hcs (by decide)))
                have HC8 := Lib.hid hc8
                clear hc8 hg8 hl8 h7
                go_wp2_with fail
                go_roundw
                case rel => exact ⟨k + 1, K ++ [d], by omega, by go_num, HUP.out, HC8.out, HWN1.out _ HW8.out, HF8.out⟩
                case measure => simp [intOf]; omega)
            · have hyI : ¬ (dq : Int) < (y.length : Int) := by omega
              clear hdq hdr hd
              go_wp2_with fail
              all_goals (refine ⟨⟨k + 1, K, by omega, by go_num, HU.out.mono (by omega), HK.out, ?_, HFR.out⟩, (by simp [intOf]; omega)⟩; rw [show min (k + 1) tt = min k tt by omega, ← HWE.out]; exact HW.out)
          /- end of round -/
        · obtain rfl : k = l.length := by omega
          have hltI : ¬ ((l.length : Int) < (l.length : Int)) := by omega
          obtain ⟨wx, hwx⟩ : ∃ wx, wx = wr := ⟨_, rfl⟩
          subst hwx
          obtain ⟨WF, hWFe⟩ : ∃ WF, WF = Dv.put (Dv.put st ((l.take tt).map Pt.wr)) (K.map fun j => ((l.drop tt).map Pt.wr).getD j (0, Dv.zeroS)) := ⟨_, rfl⟩
          rw [show min l.length tt = tt by omega, ← hWFe] at HW
          have hca : ((l.drop tt).map Pt.wr).length = l.length - tt := by simp
          have O4 : Hid (Own w wx b F2 (sAw (Dv.put st ((l.take tt).map Pt.wr)) ((l.drop tt).map Pt.wr) (0 + l.length))) := by
            have h1 : Own w wx b F2 _ := ⟨O3.out.dev.fr HFR.out (fun i hi hm => hg.out (by obtain rfl := List.mem_singleton.1 hm; exact hi)), HFR.out.below O3.out.bel O3.out.bel.size (fun i hi => by obtain rfl := List.mem_singleton.1 hi; exact hgw), O3.out.new⟩
            rw [HT.out.2] at h1
            exact h1
          have hke : keepE ((l.drop tt).map Pt.wr).length (K.map fun (j : Nat) => (j : Int)) = 0 := by rw [hca]; exact HU.out.keep
          have hkl : (K.map fun (j : Nat) => (j : Int)).length ≤ 1000000 := by rw [List.length_map]; exact up_len HU.out (by omega)
          have hkw : Dv.put (Dv.put st ((l.take tt).map Pt.wr)) (keptW ((l.drop tt).map Pt.wr) (K.map fun (j : Nat) => (j : Int))) = WF := by
            rw [hWFe]
            congr 1
            unfold keptW
            rw [List.map_map]
            rfl
          have hpe : (((sAw (Dv.put st ((l.take tt).map Pt.wr)) ((l.drop tt).map Pt.wr) (0 + l.length)).ca.length : Nat) : Int) = (l.length : Int) - (tt : Int) := by
            show ((((l.drop tt).map Pt.wr).length : Nat) : Int) = _
            rw [hca]; omega
          have HWF : Hid (WF.length = 64) := by rw [hWFe, Dv.put_length, Dv.put_length]; exact HL.out
          have HPE := Lib.hid hpe
          have HKE := Lib.hid hke
          have HKW := Lib.hid hkw
          have HKL := Lib.hid hkl
          obtain ⟨KA, kc, rfl⟩ := HK.out.form
          clear hca hke hkw hpe hWFe hkl O3
          go_wp2_with fail
          refine (pending_dev O4.out.dev).mono ?_
          rintro e w' ⟨rfl, rfl⟩
          rw [HPE.out]
          go_wp2_with fail
          refine (cr_step O4.out _ _ HK.out.sl HKL.out HKE.out).mono ?_
          rintro e w6 ⟨rfl, F6, ho, hf, hn⟩
          rw [HKW.out] at ho
          have O6 := Lib.hid ho
          have HW6 : Hid (Wnt w6 g WF) := HW.out.of_block (hf.block g HW.out.lt hg.out)
          clear ho hf hn O4 HK HW
          go_wp2_with fail
          refine (pending_dev O6.out.dev).mono ?_
          rintro e w' ⟨rfl, rfl⟩
          rw [show (((sAw WF [] (0 + l.length)).ca.length : Nat) : Int) = 0 from rfl]
          obtain ⟨wy, hwy⟩ : ∃ wy, wy = w6 := ⟨_, rfl⟩
          subst hwy
          have HWA : Hid (∀ n (hn : n < 64), Dv.readF (WF.getD n Dv.zeroS) n [] = WF[n]'(by rw [HWF.out]; exact hn)) := fun n hn => by
            show WF.getD n Dv.zeroS = _
            simp [List.getD_eq_getElem?_getD, List.getElem?_eq_getElem (show n < WF.length by rw [HWF.out]; exact hn)]
          go_wp2_with fail
          go_loopw [13] (fun i wr => ∃ n : Nat, n ≤ 64 ∧ i = .int .i64 n ∧ Hid (Below wy.heap.size wy wr)) (fun i _ => 64 - (intOf i).toNat)
          case atStart => exact ⟨0, by omega, rfl, Below.refl _ _⟩
          case round =>
            obtain ⟨n, hn, rfl, HB⟩ := hrel
            by_cases hlt : n < 64
            · have hltI : (n : Int) < 64 := by omega
              obtain ⟨x, hx⟩ : ∃ x, x = WF[n]'(by rw [HWF.out]; exact hlt) := ⟨_, rfl⟩
              have O5 := Lib.hid (O6.out.below HB.out)
              have HW5 := Lib.hid (HW6.out.below HB.out)
              have hxx := HWA.out n hlt
              rw [← hx] at hxx
              have HXX := Lib.hid hxx
              have hrg : Hid (wr.rangeAt g (n * 128) (secC x)) := by rw [hx]; exact HW5.out.at_ n (by rw [HWF.out]; exact hlt)
              have hvx : secV x = .agg (secC x).toArray := rfl
              clear hx hxx
              go_wp2_with fail
              refine (rd_step O5.out _ n x rfl (by rw [HWF.out]; exact hlt) HXX.out).mono ?_
              rintro e w6 ⟨rfl, hb⟩
              have HB6 := Lib.hid hb
              have HBL6 := Lib.hid (Blk.new w6 (secC z).toArray 50)
              have hrg6 : Hid (w6.rangeAt g (n * 128) (secC x)) := range_below hrg.out hb
              rw [hvx]
              clear hb
              go_wp2_with (refine wpList_store_sec rfl _ _ rfl rfl w6.heap.size x rfl rfl z HBL6.out ?_; intro w7 hb7 hg7)
              have hbe : Below w6.heap.size w6 w7 := ((Below.refl _ _).alloc (Nat.le_refl _) _).grown hg7 (by simp) (fun k hk => by cases hk; exact Nat.le_refl _)
              have r1 := Lib.hid (Blk.range hb7)
              have r2 := Lib.hid (range_below hrg6.out hbe)
              have HB7 : Hid (Below wy.heap.size wy w7) := HB.out.trans ((HB6.out.mono HB.out.size).trans (hbe.mono (Nat.le_trans HB.out.size HB6.out.size)))
              have hne1 : ∀ w, (binOp .neq 50 (.agg (secC x).toArray) (.agg (secC x).toArray)).run Try.prog w = .ok (.bool false) w := fun w => by rw [neq_sec]; simp
              obtain ⟨p8, hp8⟩ : ∃ p, p = w6.heap.size := ⟨_, rfl⟩
              rw [← hp8] at r1 ⊢
              clear hb7 hg7 hbe hp8 HB6 HBL6 hrg6
              refine wp_region_quiet_below (by kernel_rfl) (by kernel_rfl) ?_
              iterate 3 (go_big_quiet_step (fail))
              go_big_quiet_want
              refine quiet_load_mid r1.out _ rfl rfl ?_
              go_simp
              go_big_quiet_on
              iterate 2 (go_big_quiet_step (fail))
              go_big_quiet_want
              refine quiet_load_mid r2.out _ rfl rfl ?_
              go_simp
              go_big_quiet_on
              iterate 2 (go_big_quiet_step (fail))
              refine wpQuiet_nil ?_
              rintro w' ⟨pp, rfl⟩
              have HB8 : Hid (Below wy.heap.size wy (Go.Sort.grow (redrawn w7 pp.d) pp.os)) := HB7.out.trans ((below_regrown w7 pp.d pp.os).mono HB7.out.size)
              go_wp2_with fail
              go_roundw
              case rel => first | exact ⟨n + 1, by omega, by go_num, HB8.out⟩ | exact ⟨_, _, _, ⟨n + 1, by omega, rfl, HB8.out⟩, by go_num, rfl, rfl⟩
              case measure => simp [intOf]; omega
            · obtain rfl : n = 64 := by omega
              have O7 := Lib.hid (O6.out.below HB.out)
              go_wp2_with fail
              refine (awake_any _).mono ?_
              rintro e w' ⟨rfl, hb⟩
              have HFIN : Hid (Below w.heap.size w w') := O7.out.bel.trans (hb.mono O7.out.bel.size)
              clear hb
              go_wp2_with fail
              go_ret
              exact ⟨rfl, HFIN.out⟩
end Go.Proofs.Ytipffdjdfobaoaa

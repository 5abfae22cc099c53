/- The contracts of zeros, Zeros, Combine of package sums, and of the reference's Zeros and Combine. Conditions: the table of half bytes, numbers of 32 bits. -/
import Derived.Test.YtjppcjcflcnliaaDoorThen
namespace Go.Proofs.YtjppcjcflcnliaaDoor
open Go.RowKit

def partL (f : Nat → Nat) (k : Nat) : List Value := (List.range 32).map fun i => .int .u32 ((if i < k then f (2 ^ i) else 0 : Nat) : Int)
def partM (f : Nat → Nat) (k : Nat) : Array Value := (partL f k).toArray
theorem partM_size (f : Nat → Nat) (k : Nat) : (partM f k).size = 32 := by simp [partM, partL]
theorem partM_zero (f : Nat → Nat) : partM f 0 = mcol fun _ => 0 := by simp [partM, partL, mcol, colL]
theorem partM_all (f : Nat → Nat) : partM f 32 = mcol f := by
  unfold partM partL mcol colL
  congr 1
theorem partM_set (f : Nat → Nat) (k : Nat) (h : k < 32) : (partM f k).setIfInBounds k (.int .u32 ((f (2 ^ k) : Nat) : Int)) = partM f (k + 1) := by
  apply Array.ext_getElem?
  intro i
  by_cases hi : i < 32
  · by_cases e : k = i
    · subst e
      rw [set_get _ _ _ (by rw [partM_size]; exact h)]
      simp only [partM, partL, List.getElem?_toArray, List.getElem?_map, List.getElem?_range hi, Option.map_some]
      rw [if_pos (by omega)]
    · rw [set_other _ _ _ _ e]
      simp only [partM, partL, List.getElem?_toArray, List.getElem?_map, List.getElem?_range hi, Option.map_some]
      by_cases h2 : i < k
      · rw [if_pos h2, if_pos (by omega)]
      · rw [if_neg h2, if_neg (by omega)]
  · rw [Array.getElem?_eq_none (by rw [Array.size_setIfInBounds, partM_size]; omega), Array.getElem?_eq_none (by rw [partM_size]; omega)]
theorem partM_get (f : Nat → Nat) (k : Nat) (h : k < 32) : (partM f k)[k]? = some (.int .u32 0) := by
  simp only [partM, partL, List.getElem?_toArray, List.getElem?_map, List.getElem?_range h, Option.map_some]
  rw [if_neg (by omega)]; rfl
theorem pow_val (k : Nat) (h : k < 32) : IntKind.u32.wrap ((2 : Int) ^ k) = ((2 ^ k : Nat) : Int) := by
  have h2 := pow32 h
  have e : (2 : Int) ^ k = ((2 ^ k : Nat) : Int) := by rw [Int.natCast_pow]; rfl
  rw [IntKind.wrap_u32, e]
  generalize 2 ^ k = p at h2 ⊢
  omega
theorem i64_and1 (n : Int) : bits .and .i64 n 1 = n % 2 := by
  have h1 : (BitVec.ofInt 64 1).toNat = 2 ^ 1 - 1 := by decide
  have key : (BitVec.ofInt 64 n &&& BitVec.ofInt 64 1).toNat = (n % ((2 ^ 64 : Nat) : Int)).toNat % 2 ^ 1 := by
    rw [BitVec.toNat_and, BitVec.toNat_ofInt, h1, Nat.and_two_pow_sub_one_eq_mod]
  show IntKind.i64.wrap ((BitVec.ofInt 64 n &&& BitVec.ofInt 64 1).toNat : Nat) = n % 2
  rw [key, IntKind.wrap_i64]
  omega
theorem zs_comp (a b : Nat) : (fun r => Cm.zs b (Cm.zs a r)) = Cm.zs (a + b) := funext fun r => (Cm.zs_add a b r).symm
theorem halve_odd (a b m : Nat) (h : m % 2 = 1) : a + b + m / 2 * (b + b) = a + m * b := by
  have e : m = 2 * (m / 2) + 1 := by omega
  conv => rhs; rw [e]
  rw [Nat.mul_add, Nat.add_mul, Nat.mul_assoc, Nat.two_mul, Nat.one_mul]
  omega
theorem halve_even (a b m : Nat) (h : m % 2 = 0) : a + m / 2 * (b + b) = a + m * b := by
  have e : m = 2 * (m / 2) := by omega
  conv => rhs; rw [e]
  rw [Nat.mul_add, Nat.mul_assoc, Nat.two_mul]
def z1 (r : Nat) : Nat := Cm.step r 0
set_option maxRecDepth 100000 in
set_option maxHeartbeats 2000000 in
theorem zeros_any (w : World) (n : Nat) (hT : TB w) (hn : n ≤ 1000000) :
    Calls Tryd.prog 38 #[.int .i64 (n : Int)] w fun e w' => e = .returned (.agg (mcol (Cm.zs n))) ∧ Below w.heap.size w w' := by
  have HT := Lib.hid hT
  have hlt0 := hT.lt
  clear hT
  go_enter Tryd.func38, Tryd.ntmps38
  go_wp2_with fail
  go_loopw [6] (fun i wr => ∃ k : Nat, k ≤ 32 ∧ i = .int .i64 k ∧ Hid (Blk wr w.heap.size (mcol fun _ => 0) 60) ∧ Hid (Blk wr (w.heap.size + 1) (partM id k) 60) ∧ Hid (Blk wr (w.heap.size + 1 + 1) (partM z1 k) 60) ∧ Hid (Below w.heap.size w wr)) (fun i _ => 32 - (intOf i).toNat)
  case atStart =>
    have hB1 : Below w.heap.size w (w.alloc (.cells (mcol fun _ => 0) 60)) := (Below.refl _ _).alloc (Nat.le_refl _) _
    have m1 := Blk.new w (mcol fun _ => 0) 60
    have hw1 : ∃ w1, w1 = w.alloc (.cells (mcol fun _ => 0) 60) := ⟨_, rfl⟩
    obtain ⟨w1, hw1⟩ := hw1
    have s1 : w1.heap.size = w.heap.size + 1 := by rw [hw1]; simp
    rw [← hw1] at m1 hB1
    have hB2 := hB1.alloc (by omega) (.cells (mcol fun _ => 0) 60)
    have m2 := Blk.new w1 (mcol fun _ => 0) 60
    have m1' := m1.below (((Below.refl w1.heap.size w1).alloc (Nat.le_refl _) (.cells (mcol fun _ => 0) 60))) m1.lt
    obtain ⟨w2, hw2⟩ : ∃ w2, w2 = w1.alloc (.cells (mcol fun _ => 0) 60) := ⟨_, rfl⟩
    have s2 : w2.heap.size = w1.heap.size + 1 := by rw [hw2]; simp
    rw [← hw2] at m2 hB2 m1'
    have hB3 := hB2.alloc (by omega) (.cells (mcol fun _ => 0) 60)
    have hBB := (Below.refl w2.heap.size w2).alloc (Nat.le_refl _) (.cells (mcol fun _ => 0) 60)
    have m3 := Blk.new w2 (mcol fun _ => 0) 60
    rw [s2, s1] at m3
    rw [s1] at m2
    have q1 := m1'.below hBB m1'.lt
    have q2 := m2.below hBB m2.lt
    rw [hw2, hw1] at q1 q2 m3 hB3
    exact ⟨0, by omega, rfl, q1, by rw [partM_zero]; exact q2, by rw [partM_zero]; exact m3, hB3⟩
  case round =>
    obtain ⟨k, hk, rfl, HR, HP, HS, HB⟩ := hrel
    by_cases hlt : k < 32
    · have hltI : (k : Int) < 32 := by omega
      have hpv := pow_val k hlt
      have hp32 := pow32 hlt
      obtain ⟨p, hp⟩ : ∃ p, p = 2 ^ k := ⟨_, rfl⟩
      rw [← hp] at hpv hp32
      have hf1 := HP.out.free k
      have hf2 : (wr.setCell ⟨w.heap.size + 1, k, none⟩ (.int .u32 (p : Int))).frozen? ⟨w.heap.size + 1 + 1, k, none⟩ = false := (HS.out.of_block (Below.heap_setCell _ _ _ _ (by simp))).free k
      have hc1 := HP.out.cell k (partM_get id k hlt)
      have hc2 : (wr.setCell ⟨w.heap.size + 1, k, none⟩ (.int .u32 (p : Int))).cell? ⟨w.heap.size + 1 + 1, k, none⟩ = some (.int .u32 0) := (HS.out.of_block (Below.heap_setCell _ _ _ _ (by simp))).cell k (partM_get z1 k hlt)
      have HPP := Lib.hid hp
      clear hp
      have HA : Hid (Calls Tryd.prog 35 #[.pointer (some ⟨w.heap.size + 1 + 1, k, none⟩), .int .u8 ((0 : Nat) : Int)] ((wr.setCell ⟨w.heap.size + 1, k, none⟩ (.int .u32 (p : Int))).setCell ⟨w.heap.size + 1 + 1, k, none⟩ (.int .u32 (p : Int))) fun e w' => e = .returned (.tuple #[]) ∧ Blk w' (w.heap.size + 1 + 1) (partM z1 (k + 1)) 60 ∧ ((wr.setCell ⟨w.heap.size + 1, k, none⟩ (.int .u32 (p : Int))).setCell ⟨w.heap.size + 1 + 1, k, none⟩ (.int .u32 (p : Int))).grownBy w' (some (w.heap.size + 1 + 1))) := by
        have b1 : Blk (wr.setCell ⟨w.heap.size + 1, k, none⟩ (.int .u32 (p : Int))) (w.heap.size + 1 + 1) (partM z1 k) 60 := HS.out.of_block (Below.heap_setCell _ _ _ _ (by simp))
        have b2 := b1.set k (.int .u32 (p : Int))
        have t1 : TB ((wr.setCell ⟨w.heap.size + 1, k, none⟩ (.int .u32 (p : Int))).setCell ⟨w.heap.size + 1 + 1, k, none⟩ (.int .u32 (p : Int))) :=
          HT.out.below ((HB.out.setCell (by simp) _).setCell (by simp; omega) _) hlt0
        have := add_any _ (w.heap.size + 1 + 1) k _ _ p 0 t1 b2 (set_get _ _ _ (by rw [partM_size]; exact hlt)) (by omega) hp32 (by omega)
        rw [set_set, HPP.out, show Cm.step (2 ^ k) 0 = z1 (2 ^ k) from rfl, partM_set z1 k hlt, ← HPP.out] at this
        exact this
      have HP2 : Hid (Blk ((wr.setCell ⟨w.heap.size + 1, k, none⟩ (.int .u32 (p : Int))).setCell ⟨w.heap.size + 1 + 1, k, none⟩ (.int .u32 (p : Int))) (w.heap.size + 1) (partM id (k + 1)) 60) := by
        have b1 := HP.out.set k (.int .u32 (p : Int))
        rw [HPP.out, show ((2 ^ k : Nat) : Int) = ((id (2 ^ k) : Nat) : Int) from rfl, partM_set id k hlt, show ((id (2 ^ k) : Nat) : Int) = ((2 ^ k : Nat) : Int) from rfl, ← HPP.out] at b1
        exact b1.of_block (Below.heap_setCell _ _ _ _ (by simp))
      have HR2 : Hid (Blk ((wr.setCell ⟨w.heap.size + 1, k, none⟩ (.int .u32 (p : Int))).setCell ⟨w.heap.size + 1 + 1, k, none⟩ (.int .u32 (p : Int))) w.heap.size (mcol fun _ => 0) 60) :=
        HR.out.of_block ((Below.heap_setCell _ _ _ _ (by simp; omega)).trans (Below.heap_setCell _ _ _ _ (by simp)))
      have HB2 : Hid (Below w.heap.size w ((wr.setCell ⟨w.heap.size + 1, k, none⟩ (.int .u32 (p : Int))).setCell ⟨w.heap.size + 1 + 1, k, none⟩ (.int .u32 (p : Int)))) := (HB.out.setCell (by simp) _).setCell (by simp; omega) _
      have hsz : w.heap.size + 1 + 1 < wr.heap.size := HS.out.lt
      go_wp2_with fail
      refine HA.out.mono ?_
      rintro e w1 ⟨rfl, hb, hg⟩
      have HS3 := Lib.hid hb
      have HP3 : Hid (Blk w1 (w.heap.size + 1) (partM id (k + 1)) 60) := HP2.out.grown hg (by simp)
      have HR3 : Hid (Blk w1 w.heap.size (mcol fun _ => 0) 60) := HR2.out.grown hg (by simp; omega)
      have HB3 : Hid (Below w.heap.size w w1) := below_grown HB2.out hg (by simp [World.setCell]; omega) (by omega)
      clear hb hg HA
      go_wp2_with fail
      go_roundw
      case rel => exact ⟨k + 1, by omega, by go_num, HR3.out, HP3.out, HS3.out, HB3.out⟩
      case measure => simp [intOf]; omega
    · obtain rfl : k = 32 := by omega
      have HP2 : Hid (Blk wr (w.heap.size + 1) (mcol (Cm.zs 0)) 60) := by
        have := HP.out
        rw [partM_all] at this; exact this
      have HS2 : Hid (Blk wr (w.heap.size + 1 + 1) (mcol (Cm.zs 1)) 60) := by
        have := HS.out
        rw [partM_all] at this; exact this
      have hltI : ¬ (((32 : Nat) : Int) < 32) := by omega
      clear HP HS
      go_wp2_with fail
      clear HT
      go_loopw [0] (fun v wr => ∃ m a b : Nat, m ≤ 1000000 ∧ v = .int .i64 (m : Int) ∧ Hid (a + m * b = n) ∧ Hid (Blk wr w.heap.size (mcol fun _ => 0) 60) ∧ Hid (Blk wr (w.heap.size + 1) (mcol (Cm.zs a)) 60) ∧ Hid (Blk wr (w.heap.size + 1 + 1) (mcol (Cm.zs b)) 60) ∧ Hid (Below w.heap.size w wr)) (fun v _ => (intOf v).toNat)
      case atStart => exact ⟨n, 0, 1, hn, rfl, by show 0 + n * 1 = n; omega, HR.out, HP2.out, HS2.out, HB.out⟩
      case round =>
        clear HR HP2 HS2 HB
        obtain ⟨m, a, b, hm, rfl, HE, HR, HP, HS, HB⟩ := hrel
        by_cases h0 : 0 < m
        · have h0I : (0 : Int) < (m : Int) := by omega
          have hand := i64_and1 (m : Int)
          by_cases hodd : m % 2 = 1
          · have ht : ((m : Int) % 2 == 1) = true := by rw [beq_iff_eq]; omega
            have HA := then_any wr (Cm.zs a) (Cm.zs b) (Cm.lin_zs a) (Cm.lin_zs b)
            rw [zs_comp] at HA
            have HA2 := Lib.hid HA
            clear HA
            have HOD := Lib.hid hodd
            clear hodd
            go_wp2_with (first
              | (refine wpList_load_row rfl 60 (.tmp 3) rfl (w.heap.size + 1) rfl 60 (mcol (Cm.zs a)) (0, 0) _ HP.out uMat rfl (by rw [iMat, mcol_size]) ?_)
              | (refine wpList_load_row rfl 60 (.tmp 4) rfl (w.heap.size + 1 + 1) rfl 60 (mcol (Cm.zs b)) (0, 0) _ HS.out uMat rfl (by rw [iMat, mcol_size]) ?_))
            refine HA2.out.mono ?_
            rintro e w1 ⟨rfl, hb⟩
            have HR1 : Hid (Blk w1 w.heap.size (mcol fun _ => 0) 60) := HR.out.below hb HR.out.lt
            have HP1 : Hid (Blk w1 (w.heap.size + 1) (mcol (Cm.zs a)) 60) := HP.out.below hb HP.out.lt
            have HS1 : Hid (Blk w1 (w.heap.size + 1 + 1) (mcol (Cm.zs b)) 60) := HS.out.below hb HS.out.lt
            have HB1 : Hid (Below w.heap.size w w1) := HB.out.trans (hb.mono HB.out.size)
            clear hb HA2 HR HP HS HB
            have HP2 : Hid (Blk (w1.setRow (w.heap.size + 1) (mcol (Cm.zs (a + b)))) (w.heap.size + 1) (mcol (Cm.zs (a + b))) 60) := setRow_heap w1 _ _ _ _ _ HP1.out
            have HS2 : Hid (Blk (w1.setRow (w.heap.size + 1) (mcol (Cm.zs (a + b)))) (w.heap.size + 1 + 1) (mcol (Cm.zs b)) 60) := HS1.out.of_block (setRow_other _ _ _ _ (by omega))
            have HR2 : Hid (Blk (w1.setRow (w.heap.size + 1) (mcol (Cm.zs (a + b)))) w.heap.size (mcol fun _ => 0) 60) := HR1.out.of_block (setRow_other _ _ _ _ (by omega))
            have HB2 : Hid (Below w.heap.size w (w1.setRow (w.heap.size + 1) (mcol (Cm.zs (a + b))))) := below_setRow HB1.out (by omega)
            go_wp2_with (first
              | (refine wpList_store_row rfl 60 (.tmp 3) (.tmp 30) rfl (w.heap.size + 1) (mcol (Cm.zs (a + b))) rfl rfl 60 (mcol (Cm.zs a)) HP1.out (by rw [iMat, mcol_size]) (by rw [mcol_size, mcol_size]) (mcol_one _) ?_)
              | (refine wpList_load_row rfl 60 (.tmp 4) rfl (w.heap.size + 1 + 1) rfl 60 (mcol (Cm.zs b)) (0, 0) _ HS2.out uMat rfl (by rw [iMat, mcol_size]) ?_))
            obtain ⟨w2, hw2⟩ : ∃ w2, w2 = w1.setRow (w.heap.size + 1) (mcol (Cm.zs (a + b))) := ⟨_, rfl⟩
            rw [← hw2] at HP2 HS2 HR2 HB2 ⊢
            clear hw2 HP1 HS1 HR1 HB1
            have HAS := then_any w2 (Cm.zs b) (Cm.zs b) (Cm.lin_zs b) (Cm.lin_zs b)
            rw [zs_comp] at HAS
            have HAS2 := Lib.hid HAS
            clear HAS
            refine HAS2.out.mono ?_
            rintro e w3 ⟨rfl, hb⟩
            have HR3 : Hid (Blk w3 w.heap.size (mcol fun _ => 0) 60) := HR2.out.below hb HR2.out.lt
            have HP3 : Hid (Blk w3 (w.heap.size + 1) (mcol (Cm.zs (a + b))) 60) := HP2.out.below hb HP2.out.lt
            have HS3 : Hid (Blk w3 (w.heap.size + 1 + 1) (mcol (Cm.zs b)) 60) := HS2.out.below hb HS2.out.lt
            have HB3 : Hid (Below w.heap.size w w3) := HB2.out.trans (hb.mono HB2.out.size)
            clear hb HAS2 HR2 HP2 HS2 HB2
            go_wp2_with (refine wpList_store_row rfl 60 (.tmp 4) (.tmp 33) rfl (w.heap.size + 1 + 1) (mcol (Cm.zs (b + b))) rfl rfl 60 (mcol (Cm.zs b)) HS3.out (by rw [iMat, mcol_size]) (by rw [mcol_size, mcol_size]) (mcol_one _) ?_)
            go_roundw
            case rel => exact ⟨m / 2, a + b, b + b, by omega, by rw [show ((m / 2 : Nat) : Int) = (m : Int) / 2 from Int.natCast_ediv m 2], by show a + b + m / 2 * (b + b) = n; rw [← HE.out]; exact halve_odd a b m HOD.out, HR3.out.of_block (setRow_other _ _ _ _ (by omega)), HP3.out.of_block (setRow_other _ _ _ _ (by omega)), setRow_heap w3 _ _ _ _ _ HS3.out, below_setRow HB3.out (by omega)⟩
            case measure => simp [intOf]; omega
          · have ht : ((m : Int) % 2 == 1) = false := by rw [beq_eq_false_iff_ne]; omega
            have HAS := then_any wr (Cm.zs b) (Cm.zs b) (Cm.lin_zs b) (Cm.lin_zs b)
            rw [zs_comp] at HAS
            have HAS2 := Lib.hid HAS
            clear HAS
            have HOD := Lib.hid hodd
            clear hodd
            go_wp2_with (refine wpList_load_row rfl 60 (.tmp 4) rfl (w.heap.size + 1 + 1) rfl 60 (mcol (Cm.zs b)) (0, 0) _ HS.out uMat rfl (by rw [iMat, mcol_size]) ?_)
            refine HAS2.out.mono ?_
            rintro e w3 ⟨rfl, hb⟩
            have HR3 : Hid (Blk w3 w.heap.size (mcol fun _ => 0) 60) := HR.out.below hb HR.out.lt
            have HP3 : Hid (Blk w3 (w.heap.size + 1) (mcol (Cm.zs a)) 60) := HP.out.below hb HP.out.lt
            have HS3 : Hid (Blk w3 (w.heap.size + 1 + 1) (mcol (Cm.zs b)) 60) := HS.out.below hb HS.out.lt
            have HB3 : Hid (Below w.heap.size w w3) := HB.out.trans (hb.mono HB.out.size)
            clear hb HAS2 HR HP HS HB
            go_wp2_with (refine wpList_store_row rfl 60 (.tmp 4) (.tmp 33) rfl (w.heap.size + 1 + 1) (mcol (Cm.zs (b + b))) rfl rfl 60 (mcol (Cm.zs b)) HS3.out (by rw [iMat, mcol_size]) (by rw [mcol_size, mcol_size]) (mcol_one _) ?_)
            go_roundw
            case rel => exact ⟨m / 2, a, b + b, by omega, by rw [show ((m / 2 : Nat) : Int) = (m : Int) / 2 from Int.natCast_ediv m 2], by show a + m / 2 * (b + b) = n; rw [← HE.out]; exact halve_even a b m (by have := HOD.out; omega), HR3.out.of_block (setRow_other _ _ _ _ (by omega)), HP3.out.of_block (setRow_other _ _ _ _ (by omega)), setRow_heap w3 _ _ _ _ _ HS3.out, below_setRow HB3.out (by omega)⟩
            case measure => simp [intOf]; omega
        · obtain rfl : m = 0 := by omega
          have e : a = n := by have := HE.out; rw [Nat.zero_mul] at this; omega
          subst e
          go_wp2_with (first
            | (refine wpList_load_row rfl 60 (.tmp 3) rfl (w.heap.size + 1) rfl 60 (mcol (Cm.zs a)) (0, 0) _ HP.out uMat rfl (by rw [iMat, mcol_size]) ?_)
            | (refine wpList_store_row rfl 60 (.tmp 2) (.tmp 34) rfl w.heap.size (mcol (Cm.zs a)) rfl rfl 60 (mcol fun _ => 0) HR.out (by rw [iMat, mcol_size]) (by rw [mcol_size, mcol_size]) (mcol_one _) ?_))
          refine bodyPost_ret (results_cell_row rfl _ _ w.heap.size 60 (mcol (Cm.zs a)) (0, 0) _ rfl (setRow_heap wr w.heap.size _ _ _ _ HR.out) uMat rfl (by rw [iMat, mcol_size])) rfl ?_
          exact ⟨rfl, below_setRow HB.out (Nat.le_refl _)⟩
end Go.Proofs.YtjppcjcflcnliaaDoor

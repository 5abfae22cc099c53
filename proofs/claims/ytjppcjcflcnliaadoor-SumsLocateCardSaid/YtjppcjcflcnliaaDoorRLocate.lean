/- The contract of Locate of the reference. Conditions: a slice that holds the bytes, at most 1000 of them, a number of 32 bits. -/
import Derived.Test.YtjppcjcflcnliaaDoorLocate
import Derived.Test.YtjppcjcflcnliaaDoorRPatch
import Derived.Deep.RegionWith
namespace Go.Proofs.YtjppcjcflcnliaaDoor
open Go.RowKit

theorem on_on (h : Nat) (x y : List UInt8) : Cm.on (Cm.on h x) y = Cm.on h (x ++ y) := by
  unfold Cm.on; rw [Cm.xor_xor, Cm.go_append]
theorem crc_parts (y : List UInt8) (i : Nat) (v : UInt8) (h : i < y.length) : Cm.on (Cm.on (Cm.crc (y.take i)) [v]) (y.drop (i + 1)) = Cm.crc (y.set i v) := by
  unfold Cm.crc
  rw [on_on, on_on, Cm.set_split y i v h]; rfl
theorem sl_one (w : World) (c : Nat) (h : c < 256) : SL encB (w.alloc (.cells #[.int .u8 (c : Int)] 5)) (w.alloc (.cells #[.int .u8 (c : Int)] 5)).heap.size (.slice (some ⟨w.heap.size, 0, none⟩) 1 1) [UInt8.ofNat c] := by
  refine .inr ⟨w.heap.size, 0, 1, rfl, by simp, Nat.le_refl _, fun i hi => ?_⟩
  obtain rfl : i = 0 := by simpa using hi
  rw [Nat.zero_add, cell_of_row _ w.heap.size 0 _ _ _ (heap_alloc_new w _)]
  show some (Value.int .u8 (c : Int)) = some (encB (UInt8.ofNat c))
  rw [enc_nat c h]
set_option maxRecDepth 100000 in
set_option maxHeartbeats 2000000 in
theorem rlocate_ok (w : World) (v : Value) (y : List UInt8) (want : Nat) (hv : SL encB w w.heap.size v y) (hy : y.length ≤ 1000) (hne : Cm.crc y ≠ want) :
    Calls Tryd.prog 26 #[v, .int .u32 (want : Int)] w fun e w' => e = .returned (.tuple #[.int .i64 ((locAt (Cm.found y want 0) : Nat) : Int), .int .u8 ((locV y want (Cm.found y want 0) : Nat) : Int), .int .i64 ((locE (Cm.found y want 0) : Nat) : Int)]) ∧ Below w.heap.size w w' := by
  obtain ⟨A, c0, rfl⟩ := hv.form
  have hcap := hv.cap
  have HV := Lib.hid hv
  have HC := Lib.hid (rcrc_any w _ _ y hv (by omega))
  have hlenI : ¬ ((1000 : Int) < (y.length : Int)) := by omega
  have htest : (((Cm.crc y : Nat) : Int) == (want : Int)) = false := by rw [beq_eq_false_iff_ne]; omega
  obtain ⟨o, ho⟩ : ∃ o, o = Cm.found y want 0 := ⟨_, rfl⟩
  rw [← ho]
  have HO := Lib.hid ho
  clear hv hne ho
  go_enter Tryd.func26, Tryd.ntmps26
  go_wp2_with fail
  refine HC.out.mono ?_
  rintro e w1 ⟨rfl, rfl⟩
  go_wp2_with fail
  go_loopw [7] (fun i wr => ∃ k : Nat, k ≤ y.length ∧ i = .int .i64 (k : Int) ∧ Hid (o = Cm.found y want k) ∧ Hid (Below w.heap.size w wr)) (fun i _ => y.length - (intOf i).toNat)
  case atStart => exact ⟨0, by omega, rfl, HO.out, Below.refl _ _⟩
  case round =>
    clear HO
    obtain ⟨k, hk, rfl, HO, HB⟩ := hrel
    by_cases hlt : k < y.length
    · have hltI : (k : Int) < (y.length : Int) := by omega
      obtain ⟨b, off, hA, hbl, hcell⟩ := HV.out.at (by omega)
      subst hA
      have hvr := HV.out.next HB.out
      have HR := Lib.hid (rcrc_any wr _ _ (y.take k) (hvr.first (k := k) (by omega)) (by simp; omega))
      have hkc : (k : Int) ≤ (c0 : Int) := by omega
      have hc32 := Cm.crc_lt (y.take k)
      obtain ⟨h, hh⟩ : ∃ h, h = Cm.crc (y.take k) := ⟨_, rfl⟩
      rw [← hh] at HR hc32
      have HH := Lib.hid hh
      clear hvr hh hcell
      go_wp2_with fail
      refine HR.out.mono ?_
      rintro e w2 ⟨rfl, rfl⟩
      clear HR
      go_wp2_with fail
      go_loopw [9] (fun i ws => ∃ u : Nat, u ≤ 256 ∧ i = .int .i64 (u : Int) ∧ Hid (∀ t, t < u → ¬ (Cm.need y want k < 256 ∧ t = Cm.val y want k)) ∧ Hid (Below w.heap.size w ws)) (fun i _ => 256 - (intOf i).toNat)
      case atStart => exact ⟨0, by omega, rfl, fun t ht => by omega, HB.out⟩
      case round =>
        clear HB
        obtain ⟨u, hu, rfl, HU, HB⟩ := hrel
        by_cases hlt2 : u < 256
        · have hlt2I : (u : Int) < 256 := by omega
          have hon : Cm.on h [UInt8.ofNat u] < 4294967296 := Cm.on_lt _ hc32
          have HP : Hid (Cm.on (Cm.on h [UInt8.ofNat u]) (y.drop (k + 1)) = Cm.crc (y.set k (UInt8.ofNat u))) := by rw [HH.out]; exact crc_parts y k _ hlt
          have HIF : Hid (Cm.crc (y.set k (UInt8.ofNat u)) = want ↔ (Cm.need y want k < 256 ∧ u = Cm.val y want k)) := by
            have := Cm.set_iff_val y want k (UInt8.ofNat u) hlt
            rw [UInt8.toNat_ofNat', Nat.mod_eq_of_lt hlt2] at this
            exact this
          have HVr : Hid (SL encB (wr.alloc (.cells #[.int .u8 (u : Int)] 5)).drew (wr.alloc (.cells #[.int .u8 (u : Int)] 5)).drew.heap.size (.slice (some ⟨b, off, none⟩) y.length c0) y) := HV.out.next ((HB.out.alloc HB.out.size _).drew)
          have HR1 := Lib.hid (ron_any (wr.alloc (.cells #[.int .u8 (u : Int)] 5)).drew h _ _ [UInt8.ofNat u] (sl_one wr u hlt2) hc32 (by simp))
          have HR2 := ron_any (wr.alloc (.cells #[.int .u8 (u : Int)] 5)).drew (Cm.on h [UInt8.ofNat u]) _ _ (y.drop (k + 1)) (HVr.out.rest (k := k + 1) (by omega)) hon (by simp; omega)
          rw [HP.out] at HR2
          obtain ⟨q, hq⟩ : ∃ q, q = Cm.on h [UInt8.ofNat u] := ⟨_, rfl⟩
          rw [← hq] at HR1 HR2
          obtain ⟨r, hr⟩ : ∃ r, r = Cm.crc (y.set k (UInt8.ofNat u)) := ⟨_, rfl⟩
          rw [← hr] at HR2 HIF
          have HBn : Hid (Below w.heap.size w (wr.alloc (.cells #[.int .u8 (u : Int)] 5)).drew) := (HB.out.alloc HB.out.size _).drew
          have hwr : IntKind.u8.wrap (u : Int) = (u : Int) := by rw [IntKind.wrap_u8]; omega
          have hk1 : (k : Int) + 1 ≤ (y.length : Int) := by omega
          have hk2 : (k : Int) + 1 ≤ (c0 : Int) := by omega
          have hk3 : k + 1 ≤ y.length := by omega
          have hwk : IntKind.i64.wrap ((k : Int) + 1) = (k : Int) + 1 := by rw [IntKind.wrap_i64]; omega
          have hwt : ((k : Int) + 1).toNat = k + 1 := by omega
          have hwz : 0 ≤ (k : Int) + 1 := by omega
          have hk5 : (y.length : Int) ≤ (c0 : Int) := by omega
          have hk4 : k + 1 ≤ c0 := by omega
          clear HP hq hr hon HVr
          by_cases hck : c0 = k + 1
          · rw [if_pos hck] at HR2
            subst hck
            rw [Nat.sub_self, show y.length - (k + 1) = 0 by omega] at HR2
            have HR3 := Lib.hid HR2
            clear HR2
            go_wp2_with fail
            go_region_with (first
              | (go_at_call 17; with_reducible refine HR1.out.mono ?_; rintro e w' ⟨rfl, rfl⟩)
              | (go_at_call 17; with_reducible refine HR3.out.mono ?_; rintro e w' ⟨rfl, rfl⟩))
            all_goals
              clear hwk hwt hwz HR1 HR3
              by_cases hit : r = want
              · have ht : ((r : Int) == (want : Int)) = true := by rw [hit]; simp
                have hh := HIF.out.1 hit
                have hfo : Cm.found y want k = some k := Cm.found_here y want k hlt hh.1
                have HO2 : Hid (o = some k) := by show o = some k; rw [HO.out, hfo]
                have HU2 : Hid (u = Cm.val y want k) := hh.2
                clear hit hh hfo HO
                go_wp2_with fail
                refine bodyPost_ret (v := .tuple #[.int .i64 (k : Int), .int .u8 (u : Int), .int .i64 0]) (by simp [results, Tryd.results26, go_sem]) rfl ⟨?_, HBn.out⟩
                rw [HO2.out, HU2.out]; rfl
              · have ht : ((r : Int) == (want : Int)) = false := by rw [beq_eq_false_iff_ne]; omega
                have HNO : Hid (∀ t, t < u + 1 → ¬ (Cm.need y want k < 256 ∧ t = Cm.val y want k)) := fun t htu hc => by
                  by_cases e : t = u
                  · exact hit (HIF.out.2 (by rw [← e]; exact hc))
                  · exact HU.out t (by omega) hc
                clear hit
                go_wp2_with fail
                go_roundw
                case rel => exact ⟨u + 1, by omega, by go_num, HNO.out, HBn.out⟩
                case measure => simp [intOf]; omega
          · rw [if_neg hck] at HR2
            have HR3 : Hid (Calls Tryd.prog 17 #[.int .u32 (q : Int), .slice (some ⟨b, off + (k + 1), none⟩) (y.length - (k + 1)) (c0 - (k + 1))] (wr.alloc (.cells #[.int .u8 (u : Int)] 5)).drew fun e w' => e = .returned (.int .u32 (r : Int)) ∧ (wr.alloc (.cells #[.int .u8 (u : Int)] 5)).drew = w') := HR2
            clear HR2
            go_wp2_with fail
            go_region_with (first
              | (go_at_call 17; with_reducible refine HR1.out.mono ?_; rintro e w' ⟨rfl, rfl⟩)
              | (go_at_call 17; with_reducible refine HR3.out.mono ?_; rintro e w' ⟨rfl, rfl⟩))
            all_goals
              clear hwk hwt hwz HR1 HR3
              by_cases hit : r = want
              · have ht : ((r : Int) == (want : Int)) = true := by rw [hit]; simp
                have hh := HIF.out.1 hit
                have hfo : Cm.found y want k = some k := Cm.found_here y want k hlt hh.1
                have HO2 : Hid (o = some k) := by show o = some k; rw [HO.out, hfo]
                have HU2 : Hid (u = Cm.val y want k) := hh.2
                clear hit hh hfo HO
                go_wp2_with fail
                refine bodyPost_ret (v := .tuple #[.int .i64 (k : Int), .int .u8 (u : Int), .int .i64 0]) (by simp [results, Tryd.results26, go_sem]) rfl ⟨?_, HBn.out⟩
                rw [HO2.out, HU2.out]; rfl
              · have ht : ((r : Int) == (want : Int)) = false := by rw [beq_eq_false_iff_ne]; omega
                have HNO : Hid (∀ t, t < u + 1 → ¬ (Cm.need y want k < 256 ∧ t = Cm.val y want k)) := fun t htu hc => by
                  by_cases e : t = u
                  · exact hit (HIF.out.2 (by rw [← e]; exact hc))
                  · exact HU.out t (by omega) hc
                clear hit
                go_wp2_with fail
                go_roundw
                case rel => exact ⟨u + 1, by omega, by go_num, HNO.out, HBn.out⟩
                case measure => simp [intOf]; omega
        · obtain rfl : u = 256 := by omega
          have hlt2I : ¬ (((256 : Nat) : Int) < 256) := by omega
          have hno : ¬ Cm.need y want k < 256 := fun h => HU.out _ (Cm.val_lt y want k) ⟨h, rfl⟩
          have HO2 : Hid (o = Cm.found y want (k + 1)) := by show o = _; rw [HO.out]; exact Cm.found_next y want k hlt hno
          clear hno
          go_wp2_with fail
          go_roundw
          case rel => exact ⟨k + 1, by omega, by go_num, HO2.out, HB.out⟩
          case measure => simp [intOf]; omega
    · have hltI : ¬ ((k : Int) < (y.length : Int)) := by omega
      have HO2 : Hid (o = none) := by show o = none; rw [HO.out, show k = y.length by omega]; exact Cm.found_end y want
      go_wp2_with fail
      refine bodyPost_ret (v := .tuple #[.int .i64 0, .int .u8 0, .int .i64 4]) (by simp [results, Tryd.results26, go_sem]) rfl ⟨?_, HB.out⟩
      rw [HO2.out]; rfl
theorem rlocate_long (w : World) (v : Value) (y : List UInt8) (want : Nat) (hv : SL encB w w.heap.size v y) (hy : 1000 < y.length) :
    Calls Tryd.prog 26 #[v, .int .u32 (want : Int)] w fun e w' => e = .returned (.tuple #[.int .i64 0, .int .u8 0, .int .i64 3]) ∧ w = w' := by
  obtain ⟨A, c0, rfl⟩ := hv.form
  have hlenI : (1000 : Int) < (y.length : Int) := by omega
  go_enter Tryd.func26, Tryd.ntmps26
  go_wp2_with fail
  refine bodyPost_ret (v := .tuple #[.int .i64 0, .int .u8 0, .int .i64 3]) (by simp [results, Tryd.results26, go_sem]) rfl ⟨rfl, rfl⟩
theorem rlocate_twice (w : World) (v : Value) (y : List UInt8) (want : Nat) (hv : SL encB w w.heap.size v y) (hy : y.length ≤ 1000) (hne : Cm.crc y = want) :
    Calls Tryd.prog 26 #[v, .int .u32 (want : Int)] w fun e w' => e = .returned (.tuple #[.int .i64 0, .int .u8 0, .int .i64 8]) ∧ w = w' := by
  obtain ⟨A, c0, rfl⟩ := hv.form
  have HC := rcrc_any w _ _ y hv (by omega)
  rw [hne] at HC
  have HC2 := Lib.hid HC
  have hlenI : ¬ ((1000 : Int) < (y.length : Int)) := by omega
  clear hv hne HC
  go_enter Tryd.func26, Tryd.ntmps26
  go_wp2_with fail
  refine HC2.out.mono ?_
  rintro e w' ⟨rfl, rfl⟩
  go_wp2_with fail
  refine bodyPost_ret (v := .tuple #[.int .i64 0, .int .u8 0, .int .i64 8]) (by simp [results, Tryd.results26, go_sem]) rfl ⟨rfl, rfl⟩
/-- Both answer alike, whatever the bytes are. -/
theorem locates (v : Value) (y : List UInt8) (want : Nat) (hw : want < 4294967296) (hy : y.length ≤ 9223372036854775807) : ∃ a b e : Nat,
    (∀ w, TB w → SL encB w w.heap.size v y → Calls Tryd.prog 25 #[v, .int .u32 (want : Int)] w fun x w' => x = .returned (.tuple #[.int .i64 (a : Int), .int .u8 (b : Int), .int .i64 (e : Int)]) ∧ Below w.heap.size w w') ∧
    (∀ w, SL encB w w.heap.size v y → Calls Tryd.prog 26 #[v, .int .u32 (want : Int)] w fun x w' => x = .returned (.tuple #[.int .i64 (a : Int), .int .u8 (b : Int), .int .i64 (e : Int)]) ∧ Below w.heap.size w w') := by
  by_cases hl : 1000 < y.length
  · refine ⟨0, 0, 3, fun w _ hv => (locate_long w v y want hv hl).mono ?_, fun w hv => (rlocate_long w v y want hv hl).mono ?_⟩
    · rintro e w' ⟨rfl, rfl⟩; exact ⟨rfl, Below.refl _ _⟩
    · rintro e w' ⟨rfl, rfl⟩; exact ⟨rfl, Below.refl _ _⟩
  · by_cases hc : Cm.crc y = want
    · refine ⟨0, 0, 8, fun w hT hv => locate_twice w v y want hT hv hw (by omega) hc, fun w hv => (rlocate_twice w v y want hv (by omega) hc).mono ?_⟩
      rintro e w' ⟨rfl, rfl⟩; exact ⟨rfl, Below.refl _ _⟩
    · exact ⟨_, _, _, fun w hT hv => locate_ok w v y want hT hv hw (by omega) hc, fun w hv => rlocate_ok w v y want hv (by omega) hc⟩
end Go.Proofs.YtjppcjcflcnliaaDoor

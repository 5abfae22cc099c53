/- The contract of do, kinds 3 to 7 of call. Condition: the map lies in a block of its own, the list as said. -/
import Derived.Test.YtanppmpijadhbaaDoBase
namespace Go.Proofs.Ytanppmpijadhbaa
open Go.RowKit

set_option maxRecDepth 100000 in
set_option maxHeartbeats 4000000 in
theorem do_3 (w : World) (base b N wh : Nat) (u : Value) (l : List Bool) (i k : Int) (t : Bool) (M : MapAt w b N (listF l)) (hu : SL encT w w.heap.size u l) (hl : l.length = N) (hN : N ≤ 4096) (hb : base ≤ b) (hbw : base ≤ w.heap.size) (hi : i64 i) (hk : i64 k) (hw : wh < 256) (hq : (wh : Int) % 9 = 3) :
    Calls Try.prog 13 #[.pointer (some ⟨b, 0, none⟩), u, .agg (callC wh i k t)] w (DoPost w base N) := by
  obtain ⟨A, c, rfl⟩ := hu.form
  obtain ⟨W0, hW0⟩ : ∃ W0, W0 = w.alloc (.cells (callC wh i k t) 33) := ⟨_, rfl⟩
  have B0 : Hid (Below w.heap.size w W0) := by rw [hW0]; exact (Below.refl _ _).alloc (Nat.le_refl _) _
  have M0 : Hid (MapAt W0 b N (listF l)) := M.below B0.out M.lt
  have S0 : Hid (SL encT W0 W0.heap.size (.slice A l.length c) l) := (hu.below B0.out (Nat.le_refl _)).mono B0.out.size
  have BC : Hid (∀ w', Below (w.heap.size + 1) W0 w' → w'.cell? ⟨w.heap.size, 0, none⟩ = some (.int .u8 (wh : Int)) ∧ w'.cell? ⟨w.heap.size, 1, none⟩ = some (.int .i64 i) ∧ w'.cell? ⟨w.heap.size, 2, none⟩ = some (.int .i64 k) ∧ w'.cell? ⟨w.heap.size, 3, none⟩ = some (.bool t)) := fun w' h => by rw [hW0] at h; exact box_cells h
  have Z0 : Hid (W0.heap.size = w.heap.size + 1) := by rw [hW0]; exact alloc_size _ _
  have HW0 := Lib.hid hW0
  have HL := Lib.hid hl
  have HI := Lib.hid hi
  have HK := Lib.hid hk
  have bltw := M.lt
  clear M hu hW0 hl hi hk
  by_cases h : 0 ≤ i ∧ i ≤ (N : Int) ∧ 0 ≤ k ∧ k ≤ (N : Int) - i
  · obtain ⟨a, rfl⟩ : ∃ a : Nat, i = (a : Int) := ⟨i.toNat, by omega⟩
    obtain ⟨m, rfl⟩ : ∃ m : Nat, k = (m : Int) := ⟨k.toNat, by omega⟩
    have f1 := Lib.hid (count_ok W0 b N _ a m M0.out (by omega))
    have f2 := Lib.hid (rcount_ok W0 _ l a m S0.out (by rw [HL.out]; omega) (by rw [HL.out]; omega))
    clear h
    go_enter Try.func13, Try.ntmps13
    unfold callC at HW0
    unfold callC
    go_wp2_with fail
    rw [← HW0.out]
    obtain ⟨c0, c1, c2, c3⟩ := BC.out W0 (Below.refl _ _)
    refine (f1.out).mono ?_
    rintro e w' ⟨rfl, rfl⟩
    go_wp2_with fail
    refine (f2.out).mono ?_
    rintro e w' ⟨rfl, rfl⟩
    go_wp2_with fail
    go_ret3
    exact ⟨b, _, l, rfl, M0.out, S0.out, HL.out, hb, B0.out.mono hbw⟩
  · have f1 := Lib.hid (count_bad W0 b N _ i k M0.out HI.out HK.out h)
    have f2 := Lib.hid (rcount_bad W0 _ l i k S0.out (by rw [HL.out]; omega) HI.out (by rw [HL.out]; exact h))
    clear h
    go_enter Try.func13, Try.ntmps13
    unfold callC at HW0
    unfold callC
    go_wp2_with fail
    rw [← HW0.out]
    obtain ⟨c0, c1, c2, c3⟩ := BC.out W0 (Below.refl _ _)
    refine (f1.out).mono ?_
    rintro e w' ⟨rfl, rfl⟩
    go_wp2_with fail
    refine (f2.out).mono ?_
    rintro e w' ⟨rfl, rfl⟩
    go_wp2_with fail
    go_ret3
    exact ⟨b, _, l, rfl, M0.out, S0.out, HL.out, hb, B0.out.mono hbw⟩
set_option maxRecDepth 100000 in
set_option maxHeartbeats 4000000 in
theorem do_4 (w : World) (base b N wh : Nat) (u : Value) (l : List Bool) (i k : Int) (t : Bool) (M : MapAt w b N (listF l)) (hu : SL encT w w.heap.size u l) (hl : l.length = N) (hN : N ≤ 4096) (hb : base ≤ b) (hbw : base ≤ w.heap.size) (hi : i64 i) (hk : i64 k) (hw : wh < 256) (hq : (wh : Int) % 9 = 4) :
    Calls Try.prog 13 #[.pointer (some ⟨b, 0, none⟩), u, .agg (callC wh i k t)] w (DoPost w base N) := by
  obtain ⟨A, c, rfl⟩ := hu.form
  obtain ⟨W0, hW0⟩ : ∃ W0, W0 = w.alloc (.cells (callC wh i k t) 33) := ⟨_, rfl⟩
  have B0 : Hid (Below w.heap.size w W0) := by rw [hW0]; exact (Below.refl _ _).alloc (Nat.le_refl _) _
  have M0 : Hid (MapAt W0 b N (listF l)) := M.below B0.out M.lt
  have S0 : Hid (SL encT W0 W0.heap.size (.slice A l.length c) l) := (hu.below B0.out (Nat.le_refl _)).mono B0.out.size
  have BC : Hid (∀ w', Below (w.heap.size + 1) W0 w' → w'.cell? ⟨w.heap.size, 0, none⟩ = some (.int .u8 (wh : Int)) ∧ w'.cell? ⟨w.heap.size, 1, none⟩ = some (.int .i64 i) ∧ w'.cell? ⟨w.heap.size, 2, none⟩ = some (.int .i64 k) ∧ w'.cell? ⟨w.heap.size, 3, none⟩ = some (.bool t)) := fun w' h => by rw [hW0] at h; exact box_cells h
  have Z0 : Hid (W0.heap.size = w.heap.size + 1) := by rw [hW0]; exact alloc_size _ _
  have HW0 := Lib.hid hW0
  have HL := Lib.hid hl
  have HI := Lib.hid hi
  have HK := Lib.hid hk
  have bltw := M.lt
  clear M hu hW0 hl hi hk
  by_cases h : 0 ≤ i ∧ i ≤ (N : Int)
  · obtain ⟨a, rfl⟩ : ∃ a : Nat, i = (a : Int) := ⟨i.toNat, by omega⟩
    have f1 := next_ok W0 b N _ a t M0.out (by omega)
    have f2 := rnext_ok W0 _ l a t S0.out (by rw [HL.out]; omega) (by rw [HL.out]; omega)
    obtain ⟨p, z, hp⟩ := optV_form (runO (listF l) N a 1 t)
    have hp2 : optV (runO (listF l) l.length a 1 t) = .tuple #[.int .i64 p, .int .i64 z] := by first | exact hp | (rw [HL.out]; exact hp)
    rw [hp] at f1
    rw [hp2] at f2
    have F1 := Lib.hid f1
    have F2 := Lib.hid f2
    clear h f1 f2 hp hp2
    go_enter Try.func13, Try.ntmps13
    unfold callC at HW0
    unfold callC
    go_wp2_with fail
    rw [← HW0.out]
    obtain ⟨c0, c1, c2, c3⟩ := BC.out W0 (Below.refl _ _)
    refine (F1.out).mono ?_
    rintro e w' ⟨rfl, rfl⟩
    go_wp2_with fail
    refine (F2.out).mono ?_
    rintro e w' ⟨rfl, rfl⟩
    go_wp2_with fail
    go_ret3
    exact ⟨b, _, l, rfl, M0.out, S0.out, HL.out, hb, B0.out.mono hbw⟩
  · have f1 := Lib.hid (next_bad W0 b N _ i t M0.out HI.out h)
    have f2 := Lib.hid (rnext_bad W0 _ l i t S0.out (by rw [HL.out]; exact h))
    clear h
    go_enter Try.func13, Try.ntmps13
    unfold callC at HW0
    unfold callC
    go_wp2_with fail
    rw [← HW0.out]
    obtain ⟨c0, c1, c2, c3⟩ := BC.out W0 (Below.refl _ _)
    refine (f1.out).mono ?_
    rintro e w' ⟨rfl, rfl⟩
    go_wp2_with fail
    refine (f2.out).mono ?_
    rintro e w' ⟨rfl, rfl⟩
    go_wp2_with fail
    go_ret3
    exact ⟨b, _, l, rfl, M0.out, S0.out, HL.out, hb, B0.out.mono hbw⟩
set_option maxRecDepth 100000 in
set_option maxHeartbeats 4000000 in
theorem do_5 (w : World) (base b N wh : Nat) (u : Value) (l : List Bool) (i k : Int) (t : Bool) (M : MapAt w b N (listF l)) (hu : SL encT w w.heap.size u l) (hl : l.length = N) (hN : N ≤ 4096) (hb : base ≤ b) (hbw : base ≤ w.heap.size) (hi : i64 i) (hk : i64 k) (hw : wh < 256) (hq : (wh : Int) % 9 = 5) :
    Calls Try.prog 13 #[.pointer (some ⟨b, 0, none⟩), u, .agg (callC wh i k t)] w (DoPost w base N) := by
  obtain ⟨A, c, rfl⟩ := hu.form
  obtain ⟨W0, hW0⟩ : ∃ W0, W0 = w.alloc (.cells (callC wh i k t) 33) := ⟨_, rfl⟩
  have B0 : Hid (Below w.heap.size w W0) := by rw [hW0]; exact (Below.refl _ _).alloc (Nat.le_refl _) _
  have M0 : Hid (MapAt W0 b N (listF l)) := M.below B0.out M.lt
  have S0 : Hid (SL encT W0 W0.heap.size (.slice A l.length c) l) := (hu.below B0.out (Nat.le_refl _)).mono B0.out.size
  have BC : Hid (∀ w', Below (w.heap.size + 1) W0 w' → w'.cell? ⟨w.heap.size, 0, none⟩ = some (.int .u8 (wh : Int)) ∧ w'.cell? ⟨w.heap.size, 1, none⟩ = some (.int .i64 i) ∧ w'.cell? ⟨w.heap.size, 2, none⟩ = some (.int .i64 k) ∧ w'.cell? ⟨w.heap.size, 3, none⟩ = some (.bool t)) := fun w' h => by rw [hW0] at h; exact box_cells h
  have Z0 : Hid (W0.heap.size = w.heap.size + 1) := by rw [hW0]; exact alloc_size _ _
  have HW0 := Lib.hid hW0
  have HL := Lib.hid hl
  have HI := Lib.hid hi
  have HK := Lib.hid hk
  have bltw := M.lt
  clear M hu hW0 hl hi hk
  by_cases h : 0 ≤ i ∧ i ≤ (N : Int)
  · obtain ⟨a, rfl⟩ : ∃ a : Nat, i = (a : Int) := ⟨i.toNat, by omega⟩
    have f1 := last_ok W0 b N _ a t M0.out (by omega)
    have f2 := rlast_ok W0 _ l a t S0.out (by rw [HL.out]; omega) (by rw [HL.out]; omega)
    obtain ⟨p, z, hp⟩ := optV_form (lastF (listF l) t a)
    have hp2 : optV (lastF (listF l) t a) = .tuple #[.int .i64 p, .int .i64 z] := by first | exact hp | (rw [HL.out]; exact hp)
    rw [hp] at f1
    rw [hp2] at f2
    have F1 := Lib.hid f1
    have F2 := Lib.hid f2
    clear h f1 f2 hp hp2
    go_enter Try.func13, Try.ntmps13
    unfold callC at HW0
    unfold callC
    go_wp2_with fail
    rw [← HW0.out]
    obtain ⟨c0, c1, c2, c3⟩ := BC.out W0 (Below.refl _ _)
    refine (F1.out).mono ?_
    rintro e w' ⟨rfl, rfl⟩
    go_wp2_with fail
    refine (F2.out).mono ?_
    rintro e w' ⟨rfl, rfl⟩
    go_wp2_with fail
    go_ret3
    exact ⟨b, _, l, rfl, M0.out, S0.out, HL.out, hb, B0.out.mono hbw⟩
  · have f1 := Lib.hid (last_bad W0 b N _ i t M0.out HI.out h)
    have f2 := Lib.hid (rlast_bad W0 _ l i t S0.out (by rw [HL.out]; exact h))
    clear h
    go_enter Try.func13, Try.ntmps13
    unfold callC at HW0
    unfold callC
    go_wp2_with fail
    rw [← HW0.out]
    obtain ⟨c0, c1, c2, c3⟩ := BC.out W0 (Below.refl _ _)
    refine (f1.out).mono ?_
    rintro e w' ⟨rfl, rfl⟩
    go_wp2_with fail
    refine (f2.out).mono ?_
    rintro e w' ⟨rfl, rfl⟩
    go_wp2_with fail
    go_ret3
    exact ⟨b, _, l, rfl, M0.out, S0.out, HL.out, hb, B0.out.mono hbw⟩
set_option maxRecDepth 100000 in
set_option maxHeartbeats 4000000 in
theorem do_6 (w : World) (base b N wh : Nat) (u : Value) (l : List Bool) (i k : Int) (t : Bool) (M : MapAt w b N (listF l)) (hu : SL encT w w.heap.size u l) (hl : l.length = N) (hN : N ≤ 4096) (hb : base ≤ b) (hbw : base ≤ w.heap.size) (hi : i64 i) (hk : i64 k) (hw : wh < 256) (hq : (wh : Int) % 9 = 6) :
    Calls Try.prog 13 #[.pointer (some ⟨b, 0, none⟩), u, .agg (callC wh i k t)] w (DoPost w base N) := by
  obtain ⟨A, c, rfl⟩ := hu.form
  obtain ⟨W0, hW0⟩ : ∃ W0, W0 = w.alloc (.cells (callC wh i k t) 33) := ⟨_, rfl⟩
  have B0 : Hid (Below w.heap.size w W0) := by rw [hW0]; exact (Below.refl _ _).alloc (Nat.le_refl _) _
  have M0 : Hid (MapAt W0 b N (listF l)) := M.below B0.out M.lt
  have S0 : Hid (SL encT W0 W0.heap.size (.slice A l.length c) l) := (hu.below B0.out (Nat.le_refl _)).mono B0.out.size
  have BC : Hid (∀ w', Below (w.heap.size + 1) W0 w' → w'.cell? ⟨w.heap.size, 0, none⟩ = some (.int .u8 (wh : Int)) ∧ w'.cell? ⟨w.heap.size, 1, none⟩ = some (.int .i64 i) ∧ w'.cell? ⟨w.heap.size, 2, none⟩ = some (.int .i64 k) ∧ w'.cell? ⟨w.heap.size, 3, none⟩ = some (.bool t)) := fun w' h => by rw [hW0] at h; exact box_cells h
  have Z0 : Hid (W0.heap.size = w.heap.size + 1) := by rw [hW0]; exact alloc_size _ _
  have HW0 := Lib.hid hW0
  have HL := Lib.hid hl
  have HI := Lib.hid hi
  have HK := Lib.hid hk
  have bltw := M.lt
  clear M hu hW0 hl hi hk
  have hk2 := HK.out.2
  by_cases h : 0 ≤ i ∧ i ≤ (N : Int)
  · obtain ⟨a, rfl⟩ : ∃ a : Nat, i = (a : Int) := ⟨i.toNat, by omega⟩
    by_cases hk1 : k < 1
    · have F1 := Lib.hid (run_arg W0 b N _ a k t M0.out (by omega) hk1)
      have F2 := Lib.hid (rrun_arg W0 _ l a k t S0.out (by rw [HL.out]; omega) hk1)
      clear h hk1
      go_enter Try.func13, Try.ntmps13
      unfold callC at HW0
      unfold callC
      go_wp2_with fail
      rw [← HW0.out]
      obtain ⟨c0, c1, c2, c3⟩ := BC.out W0 (Below.refl _ _)
      refine (F1.out).mono ?_
      rintro e w' ⟨rfl, rfl⟩
      go_wp2_with fail
      refine (F2.out).mono ?_
      rintro e w' ⟨rfl, rfl⟩
      go_wp2_with fail
      go_ret3
      exact ⟨b, _, l, rfl, M0.out, S0.out, HL.out, hb, B0.out.mono hbw⟩
    · obtain ⟨m, rfl⟩ : ∃ m : Nat, k = (m : Int) := ⟨k.toNat, by omega⟩
      have f1 := run_ok W0 b N _ a m t M0.out (by omega) (by omega) hk2
      have f2 := rrun_ok W0 _ l a m t S0.out (by rw [HL.out]; omega) (by rw [HL.out]; omega) (by omega) hk2
      obtain ⟨p, z, hp⟩ := optV_form (runO (listF l) N a m t)
      have hp2 : optV (runO (listF l) l.length a m t) = .tuple #[.int .i64 p, .int .i64 z] := by rw [HL.out]; exact hp
      rw [hp] at f1
      rw [hp2] at f2
      have F1 := Lib.hid f1
      have F2 := Lib.hid f2
      clear h hk1 f1 f2 hp hp2
      go_enter Try.func13, Try.ntmps13
      unfold callC at HW0
      unfold callC
      go_wp2_with fail
      rw [← HW0.out]
      obtain ⟨c0, c1, c2, c3⟩ := BC.out W0 (Below.refl _ _)
      refine (F1.out).mono ?_
      rintro e w' ⟨rfl, rfl⟩
      go_wp2_with fail
      refine (F2.out).mono ?_
      rintro e w' ⟨rfl, rfl⟩
      go_wp2_with fail
      go_ret3
      exact ⟨b, _, l, rfl, M0.out, S0.out, HL.out, hb, B0.out.mono hbw⟩
  · have F1 := Lib.hid (run_bad W0 b N _ i k t M0.out HI.out h)
    have F2 := Lib.hid (rrun_bad W0 _ l i k t S0.out (by rw [HL.out]; exact h))
    clear h
    go_enter Try.func13, Try.ntmps13
    unfold callC at HW0
    unfold callC
    go_wp2_with fail
    rw [← HW0.out]
    obtain ⟨c0, c1, c2, c3⟩ := BC.out W0 (Below.refl _ _)
    refine (F1.out).mono ?_
    rintro e w' ⟨rfl, rfl⟩
    go_wp2_with fail
    refine (F2.out).mono ?_
    rintro e w' ⟨rfl, rfl⟩
    go_wp2_with fail
    go_ret3
    exact ⟨b, _, l, rfl, M0.out, S0.out, HL.out, hb, B0.out.mono hbw⟩
set_option maxRecDepth 100000 in
set_option maxHeartbeats 4000000 in
theorem do_7 (w : World) (base b N wh : Nat) (u : Value) (l : List Bool) (i k : Int) (t : Bool) (M : MapAt w b N (listF l)) (hu : SL encT w w.heap.size u l) (hl : l.length = N) (hN : N ≤ 4096) (hb : base ≤ b) (hbw : base ≤ w.heap.size) (hi : i64 i) (hk : i64 k) (hw : wh < 256) (hq : (wh : Int) % 9 = 7) :
    Calls Try.prog 13 #[.pointer (some ⟨b, 0, none⟩), u, .agg (callC wh i k t)] w (DoPost w base N) := by
  obtain ⟨A, c, rfl⟩ := hu.form
  obtain ⟨W0, hW0⟩ : ∃ W0, W0 = w.alloc (.cells (callC wh i k t) 33) := ⟨_, rfl⟩
  have B0 : Hid (Below w.heap.size w W0) := by rw [hW0]; exact (Below.refl _ _).alloc (Nat.le_refl _) _
  have M0 : Hid (MapAt W0 b N (listF l)) := M.below B0.out M.lt
  have S0 : Hid (SL encT W0 W0.heap.size (.slice A l.length c) l) := (hu.below B0.out (Nat.le_refl _)).mono B0.out.size
  have BC : Hid (∀ w', Below (w.heap.size + 1) W0 w' → w'.cell? ⟨w.heap.size, 0, none⟩ = some (.int .u8 (wh : Int)) ∧ w'.cell? ⟨w.heap.size, 1, none⟩ = some (.int .i64 i) ∧ w'.cell? ⟨w.heap.size, 2, none⟩ = some (.int .i64 k) ∧ w'.cell? ⟨w.heap.size, 3, none⟩ = some (.bool t)) := fun w' h => by rw [hW0] at h; exact box_cells h
  have Z0 : Hid (W0.heap.size = w.heap.size + 1) := by rw [hW0]; exact alloc_size _ _
  have HW0 := Lib.hid hW0
  have HL := Lib.hid hl
  have HI := Lib.hid hi
  have HK := Lib.hid hk
  have bltw := M.lt
  clear M hu hW0 hl hi hk
  by_cases h : 0 ≤ i ∧ i < (N : Int)
  · obtain ⟨a, rfl⟩ : ∃ a : Nat, i = (a : Int) := ⟨i.toNat, by omega⟩
    have F1 := Lib.hid (get_ok W0 b N _ a M0.out (by omega))
    have F2 := Lib.hid (rget_ok W0 _ l a S0.out (by rw [HL.out]; omega))
    clear h
    go_enter Try.func13, Try.ntmps13
    unfold callC at HW0
    unfold callC
    go_wp2_with fail
    rw [← HW0.out]
    obtain ⟨c0, c1, c2, c3⟩ := BC.out W0 (Below.refl _ _)
    refine (F1.out).mono ?_
    rintro e w' ⟨rfl, rfl⟩
    go_wp2_with fail
    refine (F2.out).mono ?_
    rintro e w' ⟨rfl, rfl⟩
    go_wp2_with fail
    go_ret3
    exact ⟨b, _, l, rfl, M0.out, S0.out, HL.out, hb, B0.out.mono hbw⟩
  · have F1 := Lib.hid (get_bad W0 b N _ i M0.out HI.out h)
    have F2 := Lib.hid (rget_bad W0 _ l i S0.out (by rw [HL.out]; exact h))
    clear h
    go_enter Try.func13, Try.ntmps13
    unfold callC at HW0
    unfold callC
    go_wp2_with fail
    rw [← HW0.out]
    obtain ⟨c0, c1, c2, c3⟩ := BC.out W0 (Below.refl _ _)
    refine (F1.out).mono ?_
    rintro e w' ⟨rfl, rfl⟩
    go_wp2_with fail
    refine (F2.out).mono ?_
    rintro e w' ⟨rfl, rfl⟩
    go_wp2_with fail
    go_ret3
    exact ⟨b, _, l, rfl, M0.out, S0.out, HL.out, hb, B0.out.mono hbw⟩
end Go.Proofs.Ytanppmpijadhbaa

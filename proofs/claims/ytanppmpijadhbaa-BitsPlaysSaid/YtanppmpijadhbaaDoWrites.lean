/- The contract of do, kinds 0, 1, 2 and 8 of call. Condition: the map lies in a block of its own, the list as said. -/
import Derived.Test.YtanppmpijadhbaaDoBase
namespace Go.Proofs.Ytanppmpijadhbaa
open Go.RowKit

set_option maxRecDepth 100000 in
set_option maxHeartbeats 4000000 in
theorem do_0 (w : World) (base b N wh : Nat) (u : Value) (l : List Bool) (i k : Int) (t : Bool) (M : MapAt w b N (listF l)) (hu : SL encT w w.heap.size u l) (hl : l.length = N) (hN : N ≤ 4096) (hb : base ≤ b) (hbw : base ≤ w.heap.size) (hi : i64 i) (hk : i64 k) (hw : wh < 256) (hq : (wh : Int) % 9 = 0) :
    Calls Try.prog 13 #[.pointer (some ⟨b, 0, none⟩), u, .agg (callC wh i k t)] w (DoPost w base N) := by
  obtain ⟨A, c, rfl⟩ := hu.form
  obtain ⟨W0, hW0⟩ : ∃ W0, W0 = w.alloc (.cells (callC wh i k t) 33) := ⟨_, rfl⟩
  have B0 : Hid (Below w.heap.size w W0) := by rw [hW0]; exact (Below.refl _ _).alloc (Nat.le_refl _) _
  have M0 : Hid (MapAt W0 b N (listF l)) := M.below B0.out M.lt
  have S0 : Hid (SL encT W0 W0.heap.size (.slice A l.length c) l) := (hu.below B0.out (Nat.le_refl _)).mono B0.out.size
  have BC : Hid (∀ w', Below (w.heap.size + 1) W0 w' → w'.cell? ⟨w.heap.size, 0, none⟩ = some (.int .u8 (wh : Int)) ∧ w'.cell? ⟨w.heap.size, 1, none⟩ = some (.int .i64 i) ∧ w'.cell? ⟨w.heap.size, 2, none⟩ = some (.int .i64 k) ∧ w'.cell? ⟨w.heap.size, 3, none⟩ = some (.bool t)) := fun w' h => by rw [hW0] at h; exact box_cells h
  have Z0 : Hid (W0.heap.size = w.heap.size + 1) := by rw [hW0]; exact alloc_size _ _
  have HW0 := Lib.hid hW0
  have HL := Lib.hid hl
  have HI := Lib.hid hi
  have HK := Lib.hid hk
  have bltw := M.lt
  clear M hu hW0 hl hi hk
  by_cases h : 0 ≤ i ∧ i < (N : Int)
  · obtain ⟨a, rfl⟩ : ∃ a : Nat, i = (a : Int) := ⟨i.toNat, by omega⟩
    have haN : a < N := by omega
    have F1 := Lib.hid (rset_ok W0 _ l a t S0.out (by rw [HL.out]; omega) (by rw [HL.out]; exact haN))
    clear h
    go_enter Try.func13, Try.ntmps13
    unfold callC at HW0
    unfold callC
    go_wp2_with fail
    rw [← HW0.out]
    refine F1.out.mono ?_
    rintro e w1 ⟨g, cap, rfl, hO, hB⟩
    have O1 : Hid (OwnC w1 W0.heap.size g l.length cap (Bm.upd (listF l) a t)) := hO
    have hgB : W0.heap.size ≤ g := hO.ge
    have B1 : Hid (Below w.heap.size w w1) := B0.out.trans (hB.mono B0.out.size)
    have M1 : Hid (MapAt w1 b N (listF l)) := M0.out.below hB M0.out.lt
    obtain ⟨c0, c1, c2, c3⟩ := BC.out w1 (Z0.out ▸ hB)
    have HX := Lib.hid (set_ok w1 b N _ a t M1.out haN)
    clear hO hB F1
    go_wp2_with fail
    refine HX.out.mono ?_
    rintro e w2 ⟨rfl, hM, hG⟩
    have hgb : (some g : Option Nat) ≠ some b := by intro e; cases e; exact absurd hgB (by have := M0.out.lt; omega)
    have O2 : Hid (OwnC w2 W0.heap.size g l.length cap (Bm.upd (listF l) a t)) := World.ownsRow.kept O1.out hG (.inr (by simpa [Value.ownBlock] using hgb))
    have M2 : Hid (MapAt w2 b N (Bm.upd (listF l) a t)) := hM
    have B2 : Hid (Below base w w2) := below_grown (B1.out.mono hbw) hG (Nat.le_trans hbw B1.out.size) hb
    clear hM hG HX
    go_wp2_with fail
    go_ret3
    have hlr : listF ((List.range l.length).map (Bm.upd (listF l) a t)) = Bm.upd (listF l) a t := listF_range _ _ (fun j hj => listF_upd HL.out haN j (by rw [← HL.out]; exact hj))
    exact ⟨b, _, (List.range l.length).map (Bm.upd (listF l) a t), rfl, by rw [hlr]; exact M2.out, O2.out.sl, by rw [list_range]; exact HL.out, hb, B2.out⟩
  · have F1 := Lib.hid (rset_bad W0 A c l i t (by rw [HL.out]; exact h))
    have F2 := Lib.hid (set_bad W0 b N _ i t M0.out HI.out h)
    clear h
    go_enter Try.func13, Try.ntmps13
    unfold callC at HW0
    unfold callC
    go_wp2_with fail
    rw [← HW0.out]
    obtain ⟨c0, c1, c2, c3⟩ := BC.out W0 (Below.refl _ _)
    refine (F1.out).mono ?_
    rintro e w' ⟨rfl, rfl⟩
    go_wp2_with fail
    refine (F2.out).mono ?_
    rintro e w' ⟨rfl, rfl⟩
    go_wp2_with fail
    go_ret3
    exact ⟨b, _, l, rfl, M0.out, S0.out, HL.out, hb, B0.out.mono hbw⟩
set_option maxRecDepth 100000 in
set_option maxHeartbeats 4000000 in
theorem do_2 (w : World) (base b N wh : Nat) (u : Value) (l : List Bool) (i k : Int) (t : Bool) (M : MapAt w b N (listF l)) (hu : SL encT w w.heap.size u l) (hl : l.length = N) (hN : N ≤ 4096) (hb : base ≤ b) (hbw : base ≤ w.heap.size) (hi : i64 i) (hk : i64 k) (hw : wh < 256) (hq : (wh : Int) % 9 = 2) :
    Calls Try.prog 13 #[.pointer (some ⟨b, 0, none⟩), u, .agg (callC wh i k t)] w (DoPost w base N) := by
  obtain ⟨A, c, rfl⟩ := hu.form
  obtain ⟨W0, hW0⟩ : ∃ W0, W0 = w.alloc (.cells (callC wh i k t) 33) := ⟨_, rfl⟩
  have B0 : Hid (Below w.heap.size w W0) := by rw [hW0]; exact (Below.refl _ _).alloc (Nat.le_refl _) _
  have M0 : Hid (MapAt W0 b N (listF l)) := M.below B0.out M.lt
  have S0 : Hid (SL encT W0 W0.heap.size (.slice A l.length c) l) := (hu.below B0.out (Nat.le_refl _)).mono B0.out.size
  have BC : Hid (∀ w', Below (w.heap.size + 1) W0 w' → w'.cell? ⟨w.heap.size, 0, none⟩ = some (.int .u8 (wh : Int)) ∧ w'.cell? ⟨w.heap.size, 1, none⟩ = some (.int .i64 i) ∧ w'.cell? ⟨w.heap.size, 2, none⟩ = some (.int .i64 k) ∧ w'.cell? ⟨w.heap.size, 3, none⟩ = some (.bool t)) := fun w' h => by rw [hW0] at h; exact box_cells h
  have Z0 : Hid (W0.heap.size = w.heap.size + 1) := by rw [hW0]; exact alloc_size _ _
  have HW0 := Lib.hid hW0
  have HL := Lib.hid hl
  have HI := Lib.hid hi
  have HK := Lib.hid hk
  have bltw := M.lt
  clear M hu hW0 hl hi hk
  by_cases h : 0 ≤ i ∧ i ≤ (N : Int) ∧ 0 ≤ k ∧ k ≤ (N : Int) - i
  · obtain ⟨a, rfl⟩ : ∃ a : Nat, i = (a : Int) := ⟨i.toNat, by omega⟩
    obtain ⟨m, rfl⟩ : ∃ m : Nat, k = (m : Int) := ⟨k.toNat, by omega⟩
    have haN : a + m ≤ N := by omega
    have F1 := Lib.hid (rfill_ok W0 _ l a m t S0.out (by rw [HL.out]; omega) (by rw [HL.out]; exact haN))
    clear h
    go_enter Try.func13, Try.ntmps13
    unfold callC at HW0
    unfold callC
    go_wp2_with fail
    rw [← HW0.out]
    refine F1.out.mono ?_
    rintro e w1 ⟨g, cap, rfl, hO, hB⟩
    have O1 : Hid (OwnC w1 W0.heap.size g l.length cap (fillF (listF l) a m t)) := hO
    have hgB : W0.heap.size ≤ g := hO.ge
    have B1 : Hid (Below w.heap.size w w1) := B0.out.trans (hB.mono B0.out.size)
    have M1 : Hid (MapAt w1 b N (listF l)) := M0.out.below hB M0.out.lt
    obtain ⟨c0, c1, c2, c3⟩ := BC.out w1 (Z0.out ▸ hB)
    have HX := Lib.hid (fill_ok w1 b N _ a m t M1.out haN)
    clear hO hB F1
    go_wp2_with fail
    refine HX.out.mono ?_
    rintro e w2 ⟨rfl, hM, hG⟩
    have hgb : (some g : Option Nat) ≠ some b := by intro e; cases e; exact absurd hgB (by have := M0.out.lt; omega)
    have O2 : Hid (OwnC w2 W0.heap.size g l.length cap (fillF (listF l) a m t)) := World.ownsRow.kept O1.out hG (.inr (by simpa [Value.ownBlock] using hgb))
    have M2 : Hid (MapAt w2 b N (fillF (listF l) a m t)) := hM
    have B2 : Hid (Below base w w2) := below_grown (B1.out.mono hbw) hG (Nat.le_trans hbw B1.out.size) hb
    clear hM hG HX
    go_wp2_with fail
    go_ret3
    have hlr : listF ((List.range l.length).map (fillF (listF l) a m t)) = fillF (listF l) a m t := listF_range _ _ (fun j hj => listF_fill HL.out haN j (by rw [← HL.out]; exact hj))
    exact ⟨b, _, (List.range l.length).map (fillF (listF l) a m t), rfl, by rw [hlr]; exact M2.out, O2.out.sl, by rw [list_range]; exact HL.out, hb, B2.out⟩
  · have F1 := Lib.hid (rfill_bad W0 A c l i k t S0.out (by rw [HL.out]; omega) HI.out (by rw [HL.out]; exact h))
    have F2 := Lib.hid (fill_bad W0 b N _ i k t M0.out HI.out HK.out h)
    clear h
    go_enter Try.func13, Try.ntmps13
    unfold callC at HW0
    unfold callC
    go_wp2_with fail
    rw [← HW0.out]
    obtain ⟨c0, c1, c2, c3⟩ := BC.out W0 (Below.refl _ _)
    refine (F1.out).mono ?_
    rintro e w' ⟨rfl, rfl⟩
    go_wp2_with fail
    refine (F2.out).mono ?_
    rintro e w' ⟨rfl, rfl⟩
    go_wp2_with fail
    go_ret3
    exact ⟨b, _, l, rfl, M0.out, S0.out, HL.out, hb, B0.out.mono hbw⟩
set_option maxRecDepth 100000 in
set_option maxHeartbeats 4000000 in
theorem do_1 (w : World) (base b N wh : Nat) (u : Value) (l : List Bool) (i k : Int) (t : Bool) (M : MapAt w b N (listF l)) (hu : SL encT w w.heap.size u l) (hl : l.length = N) (hN : N ≤ 4096) (hb : base ≤ b) (hbw : base ≤ w.heap.size) (hi : i64 i) (hk : i64 k) (hw : wh < 256) (hq : (wh : Int) % 9 = 1) :
    Calls Try.prog 13 #[.pointer (some ⟨b, 0, none⟩), u, .agg (callC wh i k t)] w (DoPost w base N) := by
  obtain ⟨A, c, rfl⟩ := hu.form
  obtain ⟨W0, hW0⟩ : ∃ W0, W0 = w.alloc (.cells (callC wh i k t) 33) := ⟨_, rfl⟩
  have B0 : Hid (Below w.heap.size w W0) := by rw [hW0]; exact (Below.refl _ _).alloc (Nat.le_refl _) _
  have M0 : Hid (MapAt W0 b N (listF l)) := M.below B0.out M.lt
  have S0 : Hid (SL encT W0 W0.heap.size (.slice A l.length c) l) := (hu.below B0.out (Nat.le_refl _)).mono B0.out.size
  have BC : Hid (∀ w', Below (w.heap.size + 1) W0 w' → w'.cell? ⟨w.heap.size, 0, none⟩ = some (.int .u8 (wh : Int)) ∧ w'.cell? ⟨w.heap.size, 1, none⟩ = some (.int .i64 i) ∧ w'.cell? ⟨w.heap.size, 2, none⟩ = some (.int .i64 k) ∧ w'.cell? ⟨w.heap.size, 3, none⟩ = some (.bool t)) := fun w' h => by rw [hW0] at h; exact box_cells h
  have Z0 : Hid (W0.heap.size = w.heap.size + 1) := by rw [hW0]; exact alloc_size _ _
  have HW0 := Lib.hid hW0
  have HL := Lib.hid hl
  have HI := Lib.hid hi
  have HK := Lib.hid hk
  have bltw := M.lt
  clear M hu hW0 hl hi hk
  by_cases h : 0 ≤ i ∧ i < (N : Int)
  · obtain ⟨a, rfl⟩ : ∃ a : Nat, i = (a : Int) := ⟨i.toNat, by omega⟩
    have haN : a < N := by omega
    have F0 := Lib.hid (rget_ok W0 _ l a S0.out (by rw [HL.out]; exact haN))
    have F1 := Lib.hid (rset_ok W0 _ l a (!listF l a) S0.out (by rw [HL.out]; omega) (by rw [HL.out]; exact haN))
    clear h
    go_enter Try.func13, Try.ntmps13
    unfold callC at HW0
    unfold callC
    go_wp2_with fail
    rw [← HW0.out]
    obtain ⟨c0, c1, c2, c3⟩ := BC.out W0 (Below.refl _ _)
    refine F0.out.mono ?_
    rintro e w' ⟨rfl, rfl⟩
    go_wp2_with fail
    refine F1.out.mono ?_
    clear c0 c1 c2 c3
    rintro e w1 ⟨g, cap, rfl, hO, hB⟩
    have O1 : Hid (OwnC w1 W0.heap.size g l.length cap (Bm.upd (listF l) a (!listF l a))) := hO
    have hgB : W0.heap.size ≤ g := hO.ge
    have B1 : Hid (Below w.heap.size w w1) := B0.out.trans (hB.mono B0.out.size)
    have M1 : Hid (MapAt w1 b N (listF l)) := M0.out.below hB M0.out.lt
    obtain ⟨c0, c1, c2, c3⟩ := BC.out w1 (Z0.out ▸ hB)
    have HX := Lib.hid (turn_ok w1 b N _ a M1.out haN)
    clear hO hB F1
    go_wp2_with fail
    refine HX.out.mono ?_
    rintro e w2 ⟨rfl, hM, hG⟩
    have hgb : (some g : Option Nat) ≠ some b := by intro e; cases e; exact absurd hgB (by have := M0.out.lt; omega)
    have O2 : Hid (OwnC w2 W0.heap.size g l.length cap (Bm.upd (listF l) a (!listF l a))) := World.ownsRow.kept O1.out hG (.inr (by simpa [Value.ownBlock] using hgb))
    have M2 : Hid (MapAt w2 b N (Bm.upd (listF l) a (!listF l a))) := hM
    have B2 : Hid (Below base w w2) := below_grown (B1.out.mono hbw) hG (Nat.le_trans hbw B1.out.size) hb
    clear hM hG HX
    go_wp2_with fail
    go_ret3
    have hlr : listF ((List.range l.length).map (Bm.upd (listF l) a (!listF l a))) = Bm.upd (listF l) a (!listF l a) := listF_range _ _ (fun j hj => listF_upd HL.out haN j (by rw [← HL.out]; exact hj))
    exact ⟨b, _, (List.range l.length).map (Bm.upd (listF l) a (!listF l a)), rfl, by rw [hlr]; exact M2.out, O2.out.sl, by rw [list_range]; exact HL.out, hb, B2.out⟩
  · have F0 := Lib.hid (rget_bad W0 _ l i S0.out (by rw [HL.out]; exact h))
    have F1 := Lib.hid (rset_bad W0 A c l i true (by rw [HL.out]; exact h))
    have F2 := Lib.hid (turn_bad W0 b N _ i M0.out HI.out h)
    clear h
    go_enter Try.func13, Try.ntmps13
    unfold callC at HW0
    unfold callC
    go_wp2_with fail
    rw [← HW0.out]
    obtain ⟨c0, c1, c2, c3⟩ := BC.out W0 (Below.refl _ _)
    refine F0.out.mono ?_
    rintro e w' ⟨rfl, rfl⟩
    go_wp2_with fail
    refine (F1.out).mono ?_
    rintro e w' ⟨rfl, rfl⟩
    go_wp2_with fail
    refine (F2.out).mono ?_
    rintro e w' ⟨rfl, rfl⟩
    go_wp2_with fail
    go_ret3
    exact ⟨b, _, l, rfl, M0.out, S0.out, HL.out, hb, B0.out.mono hbw⟩
set_option maxRecDepth 100000 in
set_option maxHeartbeats 4000000 in
theorem do_8 (w : World) (base b N wh : Nat) (u : Value) (l : List Bool) (i k : Int) (t : Bool) (M : MapAt w b N (listF l)) (hu : SL encT w w.heap.size u l) (hl : l.length = N) (hN : N ≤ 4096) (hb : base ≤ b) (hbw : base ≤ w.heap.size) (hi : i64 i) (hk : i64 k) (hw : wh < 256) (hq : (wh : Int) % 9 = 8) :
    Calls Try.prog 13 #[.pointer (some ⟨b, 0, none⟩), u, .agg (callC wh i k t)] w (DoPost w base N) := by
  obtain ⟨A, c, rfl⟩ := hu.form
  obtain ⟨W0, hW0⟩ : ∃ W0, W0 = w.alloc (.cells (callC wh i k t) 33) := ⟨_, rfl⟩
  have B0 : Hid (Below w.heap.size w W0) := by rw [hW0]; exact (Below.refl _ _).alloc (Nat.le_refl _) _
  have M0 : Hid (MapAt W0 b N (listF l)) := M.below B0.out M.lt
  have S0 : Hid (SL encT W0 W0.heap.size (.slice A l.length c) l) := (hu.below B0.out (Nat.le_refl _)).mono B0.out.size
  have BC : Hid (∀ w', Below (w.heap.size + 1) W0 w' → w'.cell? ⟨w.heap.size, 0, none⟩ = some (.int .u8 (wh : Int)) ∧ w'.cell? ⟨w.heap.size, 1, none⟩ = some (.int .i64 i) ∧ w'.cell? ⟨w.heap.size, 2, none⟩ = some (.int .i64 k) ∧ w'.cell? ⟨w.heap.size, 3, none⟩ = some (.bool t)) := fun w' h => by rw [hW0] at h; exact box_cells h
  have Z0 : Hid (W0.heap.size = w.heap.size + 1) := by rw [hW0]; exact alloc_size _ _
  have HW0 := Lib.hid hW0
  have HL := Lib.hid hl
  have HI := Lib.hid hi
  have HK := Lib.hid hk
  have bltw := M.lt
  clear M hu hW0 hl hi hk
  have F1 := Lib.hid (not_ok W0 b N _ M0.out)
  go_enter Try.func13, Try.ntmps13
  unfold callC at HW0
  unfold callC
  go_wp2_with fail
  rw [← HW0.out]
  refine F1.out.mono ?_
  rintro e w1 ⟨rfl, hM, hB⟩
  obtain ⟨q, hq⟩ : ∃ q, q = W0.heap.size := ⟨_, rfl⟩
  rw [← hq] at hM ⊢
  have hqb : base ≤ q := by rw [hq]; exact Nat.le_trans hbw B0.out.size
  have Q1 := Lib.hid hM
  have B1 : Hid (Below w.heap.size w w1) := B0.out.trans (hB.mono B0.out.size)
  have M1 : Hid (MapAt w1 b N (listF l)) := M0.out.below hB M0.out.lt
  have S1 : Hid (SL encT w1 w1.heap.size (.slice A l.length c) l) := (S0.out.below hB (Nat.le_refl _)).mono hB.size
  obtain ⟨c0, c1, c2, c3⟩ := BC.out w1 (Z0.out ▸ hB)
  have F2 := rnot_ok w1 _ l S1.out (by rw [HL.out]; omega)
  have F2' := Lib.hid F2
  clear hM hB hq F1 F2
  go_wp2_with fail
  refine F2'.out.mono ?_
  rintro e w2 ⟨rfl, hO, hB⟩
  obtain ⟨g, hg⟩ : ∃ g, g = w1.heap.size := ⟨_, rfl⟩
  rw [← hg] at hO ⊢
  have O2 := Lib.hid hO
  have Q2 : Hid (MapAt w2 q N (notF N (listF l))) := Q1.out.below hB Q1.out.lt
  have B2 : Hid (Below w.heap.size w w2) := B1.out.trans (hB.mono B1.out.size)
  have M2 : Hid (MapAt w2 b N (listF l)) := M1.out.below hB M1.out.lt
  have S2 : Hid (SL encT w2 w2.heap.size (.slice A l.length c) l) := (S1.out.below hB (Nat.le_refl _)).mono hB.size
  have F3 := Lib.hid (lsame_own w2 q g g l.length _ (by rw [HL.out]; exact Q2.out) (show OwnT w2 g g l.length (notF N (listF l)) by have := O2.out; rw [HL.out] at this ⊢; exact this))
  clear hO hB hg F2' c0 c1 c2 c3
  go_wp2_with fail
  refine F3.out.mono ?_
  rintro e w3 ⟨rfl, hB⟩
  have O3 : Hid (OwnT w3 g g l.length (notF l.length (listF l))) := World.ownsRow.kept O2.out (grown_below hB none) (.inr (by simp [Value.ownBlock]))
  have Q3 : Hid (MapAt w3 q N (notF N (listF l))) := Q2.out.below hB Q2.out.lt
  have B3 : Hid (Below w.heap.size w w3) := B2.out.trans (hB.mono B2.out.size)
  have M3 : Hid (MapAt w3 b N (listF l)) := M2.out.below hB M2.out.lt
  have S3 : Hid (SL encT w3 w3.heap.size (.slice A l.length c) l) := (S2.out.below hB (Nat.le_refl _)).mono hB.size
  have F4 := Lib.hid (lsame_any w3 b _ l (by rw [HL.out]; exact M3.out) S3.out)
  clear hB F3
  go_wp2_with fail
  refine F4.out.mono ?_
  rintro e w4 ⟨rfl, hB⟩
  have O4 : Hid (OwnT w4 g g l.length (notF l.length (listF l))) := World.ownsRow.kept O3.out (grown_below hB none) (.inr (by simp [Value.ownBlock]))
  have Q4 : Hid (MapAt w4 q N (notF N (listF l))) := Q3.out.below hB Q3.out.lt
  have B4 : Hid (Below w.heap.size w w4) := B3.out.trans (hB.mono B3.out.size)
  clear hB F4
  go_wp2_with fail
  go_ret3
  have hlr : listF ((List.range l.length).map (notF l.length (listF l))) = notF N (listF l) := by
    rw [listF_range _ _ (fun j hj => by unfold notF; rw [decide_eq_false (by omega)]; rfl), HL.out]
  exact ⟨q, _, (List.range l.length).map (notF l.length (listF l)), rfl, by rw [hlr]; exact Q4.out, O4.out.sl, by rw [list_range]; exact HL.out, hqb, B4.out.mono hbw⟩
end Go.Proofs.Ytanppmpijadhbaa

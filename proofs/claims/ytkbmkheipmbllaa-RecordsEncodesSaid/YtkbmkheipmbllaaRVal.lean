/- The contract of value of the reference. Conditions: a value whose list's cells hold what is said of them. -/
import Derived.Test.YtkbmkheipmbllaaRWid
import Derived.Test.YtkbmkheipmbllaaWrite
import Derived.BigQuiet
namespace Go.Proofs.Ytkbmkheipmbllaa
open Go.RowKit

/-- What value hands back. -/
def VaE (w : World) (c : UInt8) (x : Rm.Val) (e : Ending) (w' : World) : Prop :=
  ∃ v, e = .returned (.tuple #[v, .int .i64 (Rm.valE c x : Int)]) ∧ (Rm.valE c x = 0 → OB w' w.heap.size v (Rm.valB c x)) ∧ Below w.heap.size w w'
theorem VaE.bad {w w' : World} {c : UInt8} {x : Rm.Val} {e : Ending} {n : Nat} (h : Rm.valE c x = n) (hn : n ≠ 0) (he : e = .returned (.tuple #[.slice none 0 0, .int .i64 (n : Int)])) (hb : Below w.heap.size w w') : VaE w c x e w' :=
  ⟨_, by rw [h]; exact he, fun h0 => absurd (h.symm.trans h0) hn, hb⟩
theorem VaE.ok {w w' : World} {c : UInt8} {x : Rm.Val} {e : Ending} {v : Value} {B : List UInt8} (h : Rm.valE c x = 0) (hB : Rm.valB c x = B) (he : e = .returned (.tuple #[v, .int .i64 0])) (hv : OB w' w.heap.size v B) (hb : Below w.heap.size w w') : VaE w c x e w' :=
  ⟨_, by rw [h]; exact he, fun _ => by rw [hB]; exact hv, hb⟩

set_option maxRecDepth 100000 in
set_option maxHeartbeats 1000000 in
theorem rvalue_98 (w : World) (lim : Nat) (v : Value) (x : Rm.Val) (hv : VA w lim v x) :
    Calls Try.prog 25 #[.int .u8 98, v] w fun e w' => VaE w 98 x e w' := by
  obtain ⟨lv, rfl, hl, h64⟩ := hv
  obtain ⟨A, c0, rfl⟩ := hl.form
  obtain ⟨num, str, lst⟩ := x
  simp only at hl h64 ⊢
  clear hl
  have hB : Hid (∀ p, Below w.heap.size w (w.alloc p)) := fun p => (Below.refl _ _).alloc (Nat.le_refl _) _
  have hD : Hid (∀ p m, Below w.heap.size w ((w.alloc p).drewN m)) := fun p m => below_drewN ((Below.refl _ _).alloc (Nat.le_refl _) _) m
  have HW : Hid (∀ W, Calls Try.prog 32 #[.int .u8 98] W fun e w' => e = .returned (.int .i64 1) ∧ W = w') := fun W => width_nat W 98 1 rfl
  cases str with
  | cons s str =>
    have hE : Hid (Rm.valE 98 ⟨num, s :: str, lst⟩ = 2) := by show Rm.valE 98 _ = 2; simp [Rm.valE]
    go_enter Try.func25, Try.ntmps25
    go_wp2_with fail
    go_ret2
    exact VaE.bad hE.out (by decide) rfl (hB.out _)
  | nil =>
    cases lst with
    | cons s lst =>
      have hE : Hid (Rm.valE 98 ⟨num, [], s :: lst⟩ = 2) := by show Rm.valE 98 _ = 2; simp [Rm.valE]
      have hpos : (0 : Int) < ((s :: lst).length : Int) := by simp
      go_enter Try.func25, Try.ntmps25
      go_wp2_with fail
      go_ret2
      exact VaE.bad hE.out (by decide) rfl (hB.out _)
    | nil =>
      by_cases hle : 256 ≤ num
      · have hE : Hid (Rm.valE 98 ⟨num, [], []⟩ = 7) := by show Rm.valE 98 _ = 7; simp [Rm.valE, Rm.wid]; omega
        have hleI : decide ((256 : Int) ≤ (num : Int)) = true := by simp; omega
        clear hle
        go_enter Try.func25, Try.ntmps25
        go_wp2_with fail
        refine (HW.out _).mono ?_
        rintro e w1 ⟨rfl, rfl⟩
        go_wp2_with fail
        go_quiet (fail)
        go_wp2_with fail
        go_ret2
        exact VaE.bad hE.out (by decide) rfl (hD.out _ _)
      · have hE : Hid (Rm.valE 98 ⟨num, [], []⟩ = 0) := by show Rm.valE 98 _ = 0; simp [Rm.valE, Rm.wid]; try omega
        have hBy : Hid (Rm.valB 98 ⟨num, [], []⟩ = Rm.low 1 num) := rfl
        have HL : Hid (∀ W, Calls Try.prog 34 #[.int .u64 (num : Int), .int .i64 1] W fun e w' => ∃ v', e = .returned v' ∧ OB w' W.heap.size v' (Rm.low 1 num) ∧ Below W.heap.size W w') := fun W => low_any W num 1 (by omega) h64
        have hleI : decide ((256 : Int) ≤ (num : Int)) = false := by simp; omega
        clear hle
        go_enter Try.func25, Try.ntmps25
        go_wp2_with fail
        refine (HW.out _).mono ?_
        rintro e w1 ⟨rfl, rfl⟩
        go_wp2_with fail
        go_quiet (fail)
        go_wp2_with fail
        refine (HL.out _).mono ?_
        rintro e w1 ⟨v1, rfl, ho, hb⟩
        have HO := Lib.hid (ho.lower (b := w.heap.size) (by show w.heap.size ≤ (w.alloc _).heap.size; simp))
        have HB1 : Hid (Below w.heap.size w w1) := (hD.out _ _).trans (hb.mono (by show w.heap.size ≤ (w.alloc _).heap.size; simp))
        clear ho hb
        go_wp2_with fail
        go_ret2
        exact VaE.ok hE.out hBy.out rfl HO.out HB1.out
set_option maxRecDepth 100000 in
set_option maxHeartbeats 1000000 in
theorem rvalue_119 (w : World) (lim : Nat) (v : Value) (x : Rm.Val) (hv : VA w lim v x) :
    Calls Try.prog 25 #[.int .u8 119, v] w fun e w' => VaE w 119 x e w' := by
  obtain ⟨lv, rfl, hl, h64⟩ := hv
  obtain ⟨A, c0, rfl⟩ := hl.form
  obtain ⟨num, str, lst⟩ := x
  simp only at hl h64 ⊢
  clear hl
  have hB : Hid (∀ p, Below w.heap.size w (w.alloc p)) := fun p => (Below.refl _ _).alloc (Nat.le_refl _) _
  have hD : Hid (∀ p m, Below w.heap.size w ((w.alloc p).drewN m)) := fun p m => below_drewN ((Below.refl _ _).alloc (Nat.le_refl _) _) m
  have HW : Hid (∀ W, Calls Try.prog 32 #[.int .u8 119] W fun e w' => e = .returned (.int .i64 2) ∧ W = w') := fun W => width_nat W 119 2 rfl
  cases str with
  | cons s str =>
    have hE : Hid (Rm.valE 119 ⟨num, s :: str, lst⟩ = 2) := by show Rm.valE 119 _ = 2; simp [Rm.valE]
    go_enter Try.func25, Try.ntmps25
    go_wp2_with fail
    go_ret2
    exact VaE.bad hE.out (by decide) rfl (hB.out _)
  | nil =>
    cases lst with
    | cons s lst =>
      have hE : Hid (Rm.valE 119 ⟨num, [], s :: lst⟩ = 2) := by show Rm.valE 119 _ = 2; simp [Rm.valE]
      have hpos : (0 : Int) < ((s :: lst).length : Int) := by simp
      go_enter Try.func25, Try.ntmps25
      go_wp2_with fail
      go_ret2
      exact VaE.bad hE.out (by decide) rfl (hB.out _)
    | nil =>
      by_cases hle : 65536 ≤ num
      · have hE : Hid (Rm.valE 119 ⟨num, [], []⟩ = 7) := by show Rm.valE 119 _ = 7; simp [Rm.valE, Rm.wid]; omega
        have hleI : decide ((65536 : Int) ≤ (num : Int)) = true := by simp; omega
        clear hle
        go_enter Try.func25, Try.ntmps25
        go_wp2_with fail
        refine (HW.out _).mono ?_
        rintro e w1 ⟨rfl, rfl⟩
        go_wp2_with fail
        go_quiet (fail)
        go_wp2_with fail
        go_ret2
        exact VaE.bad hE.out (by decide) rfl (hD.out _ _)
      · have hE : Hid (Rm.valE 119 ⟨num, [], []⟩ = 0) := by show Rm.valE 119 _ = 0; simp [Rm.valE, Rm.wid]; try omega
        have hBy : Hid (Rm.valB 119 ⟨num, [], []⟩ = Rm.low 2 num) := rfl
        have HL : Hid (∀ W, Calls Try.prog 34 #[.int .u64 (num : Int), .int .i64 2] W fun e w' => ∃ v', e = .returned v' ∧ OB w' W.heap.size v' (Rm.low 2 num) ∧ Below W.heap.size W w') := fun W => low_any W num 2 (by omega) h64
        have hleI : decide ((65536 : Int) ≤ (num : Int)) = false := by simp; omega
        clear hle
        go_enter Try.func25, Try.ntmps25
        go_wp2_with fail
        refine (HW.out _).mono ?_
        rintro e w1 ⟨rfl, rfl⟩
        go_wp2_with fail
        go_quiet (fail)
        go_wp2_with fail
        refine (HL.out _).mono ?_
        rintro e w1 ⟨v1, rfl, ho, hb⟩
        have HO := Lib.hid (ho.lower (b := w.heap.size) (by show w.heap.size ≤ (w.alloc _).heap.size; simp))
        have HB1 : Hid (Below w.heap.size w w1) := (hD.out _ _).trans (hb.mono (by show w.heap.size ≤ (w.alloc _).heap.size; simp))
        clear ho hb
        go_wp2_with fail
        go_ret2
        exact VaE.ok hE.out hBy.out rfl HO.out HB1.out
set_option maxRecDepth 100000 in
set_option maxHeartbeats 1000000 in
theorem rvalue_100 (w : World) (lim : Nat) (v : Value) (x : Rm.Val) (hv : VA w lim v x) :
    Calls Try.prog 25 #[.int .u8 100, v] w fun e w' => VaE w 100 x e w' := by
  obtain ⟨lv, rfl, hl, h64⟩ := hv
  obtain ⟨A, c0, rfl⟩ := hl.form
  obtain ⟨num, str, lst⟩ := x
  simp only at hl h64 ⊢
  clear hl
  have hB : Hid (∀ p, Below w.heap.size w (w.alloc p)) := fun p => (Below.refl _ _).alloc (Nat.le_refl _) _
  have hD : Hid (∀ p m, Below w.heap.size w ((w.alloc p).drewN m)) := fun p m => below_drewN ((Below.refl _ _).alloc (Nat.le_refl _) _) m
  have HW : Hid (∀ W, Calls Try.prog 32 #[.int .u8 100] W fun e w' => e = .returned (.int .i64 4) ∧ W = w') := fun W => width_nat W 100 4 rfl
  cases str with
  | cons s str =>
    have hE : Hid (Rm.valE 100 ⟨num, s :: str, lst⟩ = 2) := by show Rm.valE 100 _ = 2; simp [Rm.valE]
    go_enter Try.func25, Try.ntmps25
    go_wp2_with fail
    go_ret2
    exact VaE.bad hE.out (by decide) rfl (hB.out _)
  | nil =>
    cases lst with
    | cons s lst =>
      have hE : Hid (Rm.valE 100 ⟨num, [], s :: lst⟩ = 2) := by show Rm.valE 100 _ = 2; simp [Rm.valE]
      have hpos : (0 : Int) < ((s :: lst).length : Int) := by simp
      go_enter Try.func25, Try.ntmps25
      go_wp2_with fail
      go_ret2
      exact VaE.bad hE.out (by decide) rfl (hB.out _)
    | nil =>
      by_cases hle : 4294967296 ≤ num
      · have hE : Hid (Rm.valE 100 ⟨num, [], []⟩ = 7) := by show Rm.valE 100 _ = 7; simp [Rm.valE, Rm.wid]; omega
        have hleI : decide ((4294967296 : Int) ≤ (num : Int)) = true := by simp; omega
        clear hle
        go_enter Try.func25, Try.ntmps25
        go_wp2_with fail
        refine (HW.out _).mono ?_
        rintro e w1 ⟨rfl, rfl⟩
        go_wp2_with fail
        go_quiet (fail)
        go_wp2_with fail
        go_ret2
        exact VaE.bad hE.out (by decide) rfl (hD.out _ _)
      · have hE : Hid (Rm.valE 100 ⟨num, [], []⟩ = 0) := by show Rm.valE 100 _ = 0; simp [Rm.valE, Rm.wid]; try omega
        have hBy : Hid (Rm.valB 100 ⟨num, [], []⟩ = Rm.low 4 num) := rfl
        have HL : Hid (∀ W, Calls Try.prog 34 #[.int .u64 (num : Int), .int .i64 4] W fun e w' => ∃ v', e = .returned v' ∧ OB w' W.heap.size v' (Rm.low 4 num) ∧ Below W.heap.size W w') := fun W => low_any W num 4 (by omega) h64
        have hleI : decide ((4294967296 : Int) ≤ (num : Int)) = false := by simp; omega
        clear hle
        go_enter Try.func25, Try.ntmps25
        go_wp2_with fail
        refine (HW.out _).mono ?_
        rintro e w1 ⟨rfl, rfl⟩
        go_wp2_with fail
        go_quiet (fail)
        go_wp2_with fail
        refine (HL.out _).mono ?_
        rintro e w1 ⟨v1, rfl, ho, hb⟩
        have HO := Lib.hid (ho.lower (b := w.heap.size) (by show w.heap.size ≤ (w.alloc _).heap.size; simp))
        have HB1 : Hid (Below w.heap.size w w1) := (hD.out _ _).trans (hb.mono (by show w.heap.size ≤ (w.alloc _).heap.size; simp))
        clear ho hb
        go_wp2_with fail
        go_ret2
        exact VaE.ok hE.out hBy.out rfl HO.out HB1.out
set_option maxRecDepth 100000 in
set_option maxHeartbeats 1000000 in
theorem rvalue_113 (w : World) (lim : Nat) (v : Value) (x : Rm.Val) (hv : VA w lim v x) :
    Calls Try.prog 25 #[.int .u8 113, v] w fun e w' => VaE w 113 x e w' := by
  obtain ⟨lv, rfl, hl, h64⟩ := hv
  obtain ⟨A, c0, rfl⟩ := hl.form
  obtain ⟨num, str, lst⟩ := x
  simp only at hl h64 ⊢
  clear hl
  have hB : Hid (∀ p, Below w.heap.size w (w.alloc p)) := fun p => (Below.refl _ _).alloc (Nat.le_refl _) _
  have hD : Hid (∀ p m, Below w.heap.size w ((w.alloc p).drewN m)) := fun p m => below_drewN ((Below.refl _ _).alloc (Nat.le_refl _) _) m
  have HW : Hid (∀ W, Calls Try.prog 32 #[.int .u8 113] W fun e w' => e = .returned (.int .i64 8) ∧ W = w') := fun W => width_nat W 113 8 rfl
  cases str with
  | cons s str =>
    have hE : Hid (Rm.valE 113 ⟨num, s :: str, lst⟩ = 2) := by show Rm.valE 113 _ = 2; simp [Rm.valE]
    go_enter Try.func25, Try.ntmps25
    go_wp2_with fail
    go_ret2
    exact VaE.bad hE.out (by decide) rfl (hB.out _)
  | nil =>
    cases lst with
    | cons s lst =>
      have hE : Hid (Rm.valE 113 ⟨num, [], s :: lst⟩ = 2) := by show Rm.valE 113 _ = 2; simp [Rm.valE]
      have hpos : (0 : Int) < ((s :: lst).length : Int) := by simp
      go_enter Try.func25, Try.ntmps25
      go_wp2_with fail
      go_ret2
      exact VaE.bad hE.out (by decide) rfl (hB.out _)
    | nil =>
      have hE : Hid (Rm.valE 113 ⟨num, [], []⟩ = 0) := by show Rm.valE 113 _ = 0; simp [Rm.valE, Rm.wid]; try omega
      have hBy : Hid (Rm.valB 113 ⟨num, [], []⟩ = Rm.low 8 num) := rfl
      have HL : Hid (∀ W, Calls Try.prog 34 #[.int .u64 (num : Int), .int .i64 8] W fun e w' => ∃ v', e = .returned v' ∧ OB w' W.heap.size v' (Rm.low 8 num) ∧ Below W.heap.size W w') := fun W => low_any W num 8 (by omega) h64
      go_enter Try.func25, Try.ntmps25
      go_wp2_with fail
      refine (HW.out _).mono ?_
      rintro e w1 ⟨rfl, rfl⟩
      go_wp2_with fail
      go_quiet (fail)
      go_wp2_with fail
      refine (HL.out _).mono ?_
      rintro e w1 ⟨v1, rfl, ho, hb⟩
      have HO := Lib.hid (ho.lower (b := w.heap.size) (by show w.heap.size ≤ (w.alloc _).heap.size; simp))
      have HB1 : Hid (Below w.heap.size w w1) := (hD.out _ _).trans (hb.mono (by show w.heap.size ≤ (w.alloc _).heap.size; simp))
      clear ho hb
      go_wp2_with fail
      go_ret2
      exact VaE.ok hE.out hBy.out rfl HO.out HB1.out
set_option maxRecDepth 100000 in
set_option maxHeartbeats 1000000 in
theorem rvalue_118 (w : World) (lim : Nat) (v : Value) (x : Rm.Val) (hv : VA w lim v x) :
    Calls Try.prog 25 #[.int .u8 118, v] w fun e w' => VaE w 118 x e w' := by
  obtain ⟨lv, rfl, hl, h64⟩ := hv
  obtain ⟨A, c0, rfl⟩ := hl.form
  obtain ⟨num, str, lst⟩ := x
  simp only at hl h64 ⊢
  have HV := Lib.hid hl
  clear hl
  have hB : Hid (∀ p, Below w.heap.size w (w.alloc p)) := fun p => (Below.refl _ _).alloc (Nat.le_refl _) _
  have hD : Hid (∀ p m, Below w.heap.size w ((w.alloc p).drewN m)) := fun p m => below_drewN ((Below.refl _ _).alloc (Nat.le_refl _) _) m
  have HW : Hid (∀ W, Calls Try.prog 32 #[.int .u8 118] W fun e w' => e = .returned (.int .i64 0) ∧ W = w') := fun W => width_nat W 118 0 rfl
  clear HV
  rcases str with _ | ⟨s, str⟩
  rotate_left
  · have hE : Hid (Rm.valE 118 ⟨num, s :: str, lst⟩ = 2) := by show Rm.valE 118 _ = 2; simp [Rm.valE]
    go_enter Try.func25, Try.ntmps25
    go_wp2_with fail
    go_ret2
    exact VaE.bad hE.out (by decide) rfl (hB.out _)
  rcases lst with _ | ⟨s, lst⟩
  rotate_left
  · have hE : Hid (Rm.valE 118 ⟨num, [], s :: lst⟩ = 2) := by show Rm.valE 118 _ = 2; simp [Rm.valE]
    have hpos : (0 : Int) < ((s :: lst).length : Int) := by simp
    go_enter Try.func25, Try.ntmps25
    go_wp2_with fail
    go_ret2
    exact VaE.bad hE.out (by decide) rfl (hB.out _)
  have hE : Hid (Rm.valE 118 ⟨num, [], []⟩ = 0) := by show Rm.valE 118 _ = 0; simp [Rm.valE, Rm.wid]
  have hBy : Hid (Rm.valB 118 ⟨num, [], []⟩ = Rm.grps num) := rfl
  have HL : Hid (∀ W, Calls Try.prog 33 #[.int .u64 (num : Int)] W fun e w' => ∃ v', e = .returned v' ∧ OB w' W.heap.size v' (Rm.grps num) ∧ Below W.heap.size W w') := fun W => rgrps_any W num h64
  go_enter Try.func25, Try.ntmps25
  go_wp2_with fail
  refine (HW.out _).mono ?_
  rintro e w1 ⟨rfl, rfl⟩
  go_wp2_with fail
  go_quiet (fail)
  go_wp2_with fail
  refine (HL.out _).mono ?_
  rintro e w1 ⟨v1, rfl, ho, hb⟩
  have HO := Lib.hid (ho.lower (b := w.heap.size) (by show w.heap.size ≤ (w.alloc _).heap.size; simp))
  have HB1 : Hid (Below w.heap.size w w1) := (hD.out _ _).trans (hb.mono (by show w.heap.size ≤ (w.alloc _).heap.size; simp))
  clear ho hb
  go_wp2_with fail
  go_ret2
  exact VaE.ok hE.out hBy.out rfl HO.out HB1.out
set_option maxRecDepth 100000 in
set_option maxHeartbeats 1000000 in
theorem rvalue_115 (w : World) (lim : Nat) (v : Value) (x : Rm.Val) (hv : VA w lim v x) :
    Calls Try.prog 25 #[.int .u8 115, v] w fun e w' => VaE w 115 x e w' := by
  obtain ⟨lv, rfl, hl, h64⟩ := hv
  obtain ⟨A, c0, rfl⟩ := hl.form
  obtain ⟨num, str, lst⟩ := x
  simp only at hl h64 ⊢
  have HV := Lib.hid hl
  clear hl
  have hB : Hid (∀ p, Below w.heap.size w (w.alloc p)) := fun p => (Below.refl _ _).alloc (Nat.le_refl _) _
  have hD : Hid (∀ p m, Below w.heap.size w ((w.alloc p).drewN m)) := fun p m => below_drewN ((Below.refl _ _).alloc (Nat.le_refl _) _) m
  have HW : Hid (∀ W, Calls Try.prog 32 #[.int .u8 115] W fun e w' => e = .returned (.int .i64 0) ∧ W = w') := fun W => width_nat W 115 0 rfl
  clear HV
  rcases lst with _ | ⟨s, lst⟩
  rotate_left
  · have hE : Hid (Rm.valE 115 ⟨num, str, s :: lst⟩ = 2) := by show Rm.valE 115 _ = 2; simp [Rm.valE]
    have hpos : (0 : Int) < ((s :: lst).length : Int) := by simp
    go_enter Try.func25, Try.ntmps25
    go_wp2_with fail
    go_ret2
    exact VaE.bad hE.out (by decide) rfl (hB.out _)
  by_cases h0 : num = 0
  rotate_left
  · have hE : Hid (Rm.valE 115 ⟨num, str, []⟩ = 2) := by show Rm.valE 115 _ = 2; simp [Rm.valE, h0]
    have hd : ((num : Int) != 0) = true := by rw [bne_iff_ne]; omega
    clear h0
    go_enter Try.func25, Try.ntmps25
    go_wp2_with fail
    go_ret2
    exact VaE.bad hE.out (by decide) rfl (hB.out _)
  subst h0
  by_cases hle : 400 < str.length
  · have hE : Hid (Rm.valE 115 ⟨0, str, []⟩ = 3) := by show Rm.valE 115 _ = 3; simp [Rm.valE, hle]
    have hle2 : (400 : Int) < (str.length : Int) := by omega
    clear hle
    go_enter Try.func25, Try.ntmps25
    go_wp2_with fail
    refine (HW.out _).mono ?_
    rintro e w1 ⟨rfl, rfl⟩
    go_wp2_with fail
    go_quiet (fail)
    go_wp2_with fail
    go_ret2
    exact VaE.bad hE.out (by decide) rfl (hD.out _ _)
  have hE : Hid (Rm.valE 115 ⟨0, str, []⟩ = 0) := by show Rm.valE 115 _ = 0; simp [Rm.valE]; omega
  have hle2 : ¬ (400 : Int) < (str.length : Int) := by omega
  have hBy : Hid (Rm.valB 115 ⟨0, str, []⟩ = Rm.grps str.length ++ str) := rfl
  have HL : Hid (∀ W, Calls Try.prog 33 #[.int .u64 (str.length : Int)] W fun e w' => ∃ v', e = .returned v' ∧ OB w' W.heap.size v' (Rm.grps str.length) ∧ Below W.heap.size W w') := fun W => rgrps_any W str.length (by omega)
  have HLN := Lib.hid (Rm.grps_len str.length)
  have hw : IntKind.u64.wrap (str.length : Int) = (str.length : Int) := by show (str.length : Int) % 18446744073709551616 = _; omega
  have hDD : Hid (∀ p m, Below w.heap.size w ((w.alloc p).drewN m).drew) := fun p m => below_drewN (below_drewN ((Below.refl _ _).alloc (Nat.le_refl _) _) m) 1
  have HK : Hid (∀ m, Blk ((w.alloc (.cells #[.int .u64 0, .string ⟨str.toArray⟩, .slice A 0 c0] 49)).drewN m).drew w.heap.size #[.int .u64 0, .string ⟨str.toArray⟩, .slice A 0 c0] 49) := fun m => Blk.new w _ _
  go_enter Try.func25, Try.ntmps25
  go_wp2_with fail
  refine (HW.out _).mono ?_
  rintro e w1 ⟨rfl, rfl⟩
  go_wp2_with fail
  go_quiet (fail)
  go_wp2_with fail
  go_region_held_law (fun W => W.cell? ⟨w.heap.size, 1, none⟩ = some (.string ⟨str.toArray⟩)) (first | assumption | (exact (HK.out _).cell 1 rfl))
    (first
    | (refine (HL.out _).mono ?_
       rintro e w1 ⟨v1, rfl, ho, hb⟩
       have HO := Lib.hid (ho.lower (b := w.heap.size) (by show w.heap.size ≤ (w.alloc _).heap.size; simp))
       have HB1 : Hid (Below w.heap.size w w1) := (hDD.out _ _).trans (hb.mono (by show w.heap.size ≤ (w.alloc _).heap.size; simp))
       have HK1 := Lib.hid ((HK.out _).of_block (hb.block w.heap.size (by show w.heap.size < (w.alloc _).heap.size; simp)))
       have hS := HK1.out.cell 1 rfl
       clear ho hb)
    | (rw [if_pos (by simp [Region.wanted])]
       refine wp_append_str _ _ rfl w.heap.size _ (Rm.grps str.length) str rfl HO.out rfl (by have := HLN.out; omega) (by have := HB1.out.size; omega) ?_
       intro v2 w2 hown hgrow
       have HO2 := Lib.hid hown
       have HB2 := Lib.hid (HO.out.grown HB1.out hgrow (Nat.le_refl _) (by have := HB1.out.size; omega))
       have hk := HK1.out.grown hgrow (HO.out.apart HK1.out (by decide))
       have hS := hk.cell 1 rfl
       clear hown hgrow hk
       simp only [List.getElem_toArray, List.getElem_cons_succ, List.getElem_cons_zero]))
  go_wp2_with fail
  go_ret2
  exact VaE.ok hE.out hBy.out rfl HO2.out HB2.out
set_option maxRecDepth 100000 in
set_option maxHeartbeats 1000000 in
theorem rvalue_108 (w : World) (lim : Nat) (v : Value) (x : Rm.Val) (hv : VA w lim v x) (hlim : lim ≤ w.heap.size) :
    Calls Try.prog 25 #[.int .u8 108, v] w fun e w' => VaE w 108 x e w' := by
  obtain ⟨lv, rfl, hl, h64⟩ := hv
  obtain ⟨A, c0, rfl⟩ := hl.form
  obtain ⟨num, str, lst⟩ := x
  simp only at hl h64 ⊢
  have HV := Lib.hid hl
  clear hl
  have hB : Hid (∀ p, Below w.heap.size w (w.alloc p)) := fun p => (Below.refl _ _).alloc (Nat.le_refl _) _
  have hD : Hid (∀ p m, Below w.heap.size w ((w.alloc p).drewN m)) := fun p m => below_drewN ((Below.refl _ _).alloc (Nat.le_refl _) _) m
  have HW : Hid (∀ W, Calls Try.prog 32 #[.int .u8 108] W fun e w' => e = .returned (.int .i64 0) ∧ W = w') := fun W => width_nat W 108 0 rfl
  rcases str with _ | ⟨s, str⟩
  rotate_left
  · have hE : Hid (Rm.valE 108 ⟨num, s :: str, lst⟩ = 2) := by show Rm.valE 108 _ = 2; simp [Rm.valE]
    clear HV
    go_enter Try.func25, Try.ntmps25
    go_wp2_with fail
    go_ret2
    exact VaE.bad hE.out (by decide) rfl (hB.out _)
  by_cases h0 : num = 0
  rotate_left
  · have hE : Hid (Rm.valE 108 ⟨num, [], lst⟩ = 2) := by show Rm.valE 108 _ = 2; simp [Rm.valE, h0]
    have hd : ((num : Int) != 0) = true := by rw [bne_iff_ne]; omega
    clear h0 HV
    go_enter Try.func25, Try.ntmps25
    go_wp2_with fail
    go_ret2
    exact VaE.bad hE.out (by decide) rfl (hB.out _)
  subst h0
  by_cases hle : 60 < lst.length
  · have hE : Hid (Rm.valE 108 ⟨0, [], lst⟩ = 3) := by show Rm.valE 108 _ = 3; simp [Rm.valE, hle]
    have hle2 : (60 : Int) < (lst.length : Int) := by omega
    clear hle HV
    go_enter Try.func25, Try.ntmps25
    go_wp2_with fail
    refine (HW.out _).mono ?_
    rintro e w1 ⟨rfl, rfl⟩
    go_wp2_with fail
    go_quiet (fail)
    go_wp2_with fail
    go_ret2
    exact VaE.bad hE.out (by decide) rfl (hD.out _ _)
  have hE : Hid (Rm.valE 108 ⟨0, [], lst⟩ = 0) := by show Rm.valE 108 _ = 0; simp [Rm.valE]; omega
  have hle2 : ¬ (60 : Int) < (lst.length : Int) := by omega
  have hBy : Hid (Rm.valB 108 ⟨0, [], lst⟩ = Rm.grps lst.length ++ Rm.lowL lst) := rfl
  have HL : Hid (∀ W, Calls Try.prog 33 #[.int .u64 (lst.length : Int)] W fun e w' => ∃ v', e = .returned v' ∧ OB w' W.heap.size v' (Rm.grps lst.length) ∧ Below W.heap.size W w') := fun W => rgrps_any W lst.length (by omega)
  have HLN := Lib.hid (Rm.grps_len lst.length)
  have HK : Hid (∀ m, Blk ((w.alloc (.cells #[.int .u64 0, .string ⟨#[]⟩, .slice A lst.length c0] 49)).drewN m) w.heap.size #[.int .u64 0, .string ⟨#[]⟩, .slice A lst.length c0] 49) := fun m => Blk.new w _ _
  go_enter Try.func25, Try.ntmps25
  go_wp2_with fail
  refine (HW.out _).mono ?_
  rintro e w1 ⟨rfl, rfl⟩
  go_wp2_with fail
  go_quiet (fail)
  go_wp2_with fail
  refine (HL.out _).mono ?_
  rintro e w1 ⟨v1, rfl, ho, hb⟩
  have HO := Lib.hid (ho.lower (b := w.heap.size) (by show w.heap.size ≤ (w.alloc _).heap.size; simp))
  have HB1 : Hid (Below w.heap.size w w1) := (hD.out _ _).trans (hb.mono (by show w.heap.size ≤ (w.alloc _).heap.size; simp))
  have HK1 := Lib.hid ((HK.out _).of_block (hb.block w.heap.size (by show w.heap.size < (w.alloc _).heap.size; simp)))
  clear ho hb
  go_wp2_with fail
  go_loopw [7, 8] (fun u i wr => ∃ k : Nat, k ≤ lst.length ∧ i = .int .i64 k ∧ Hid (OB wr w.heap.size u (Rm.grps lst.length ++ Rm.lowL (lst.take k))) ∧ Hid (Below w.heap.size w wr) ∧ Hid (Blk wr w.heap.size #[.int .u64 0, .string ⟨#[]⟩, .slice A lst.length c0] 49)) (fun _ i _ => lst.length - (intOf i).toNat)
  case atStart => exact ⟨0, by omega, rfl, by rw [List.take_zero]; simpa [Hid, Rm.lowL] using HO.out, HB1.out, HK1.out⟩
  case round =>
    obtain ⟨k, hk, rfl, HOj, HBj, HKj⟩ := hrel
    have hcell := HKj.out.cell 2 rfl
    by_cases hlt : k < lst.length
    · have hltI : (k : Int) < (lst.length : Int) := by omega
      obtain ⟨p, off, hA, hp, hc⟩ := HV.out.at (by omega)
      subst hA
      have hcell2 := (HBj.out.cell (p := ⟨p, off + k, none⟩) (show p < w.heap.size by omega)).trans (hc k hlt)
      unfold enc32 at hcell2
      have hc32 := lst[k].toNat_lt
      have HN := Lib.hid (lowL_take lst k hlt)
      obtain ⟨z, hz⟩ : ∃ z, z = lst[k].toNat := ⟨_, rfl⟩
      rw [← hz] at hcell2 HN hc32
      have hw : IntKind.u64.wrap (z : Int) = (z : Int) := by show (z : Int) % 18446744073709551616 = _; omega
      have HLL : Hid ((Rm.grps lst.length ++ Rm.lowL (lst.take k)).length + (Rm.low 4 z).length ≤ 1000000000) := by
        have := HLN.out.2
        show _ ≤ _
        rw [List.length_append, Rm.lowL_len, List.length_take, Rm.low_len]; omega
      have HA := Lib.hid (low_any wr z 4 (by omega) (by omega))
      have hws := HBj.out.size
      clear hc hz
      go_wp2_with fail
      refine HA.out.mono ?_
      rintro e w2 ⟨v2, rfl, ho, hb⟩
      have HO2 := Lib.hid ((HOj.out.below hb : OB w2 w.heap.size u7 _))
      have HS2 := Lib.hid ho.sl
      have HB2 : Hid (Below w.heap.size w w2) := HBj.out.trans (hb.mono hws)
      have HK2 := Lib.hid (HKj.out.of_block (hb.block w.heap.size (by have := HKj.out.lt; omega)))
      have hw2 := hb.size
      clear ho hb HA
      go_wp2_with (at_builtin; refine wpList_append_sl rfl _ _ rfl w.heap.size w2.heap.size _ _ _ rfl HO2.out _ (Rm.low 4 z) rfl HS2.out HLL.out (by omega) ?_; intro v' w3 hown2 hgrow)
      have HB3 : Hid (Below w.heap.size w w3) := HO2.out.grown HB2.out hgrow (Nat.le_refl _) (by omega)
      have HO3 : Hid (OB w3 w.heap.size v' (Rm.grps lst.length ++ Rm.lowL (lst.take (k + 1)))) := by
        rw [HN.out, ← List.append_assoc]; unfold OB; rw [List.length_append, List.map_append]; exact hown2
      have HK3 := Lib.hid (HK2.out.grown hgrow (HO2.out.apart HK2.out (by decide)))
      clear hown2 hgrow
      go_wp2_with fail
      go_roundw
      case rel => exact ⟨k + 1, by omega, by go_num, HO3.out, HB3.out, HK3.out⟩
      case measure => simp [intOf]; omega
    · obtain rfl : k = lst.length := by omega
      have hltI : ¬ ((lst.length : Int) < (lst.length : Int)) := by omega
      have HO2 := HOj
      rw [List.take_length] at HO2
      go_wp2_with fail
      go_ret2
      exact VaE.ok hE.out hBy.out rfl HO2.out HBj.out
theorem rvalue_any (w : World) (c : UInt8) (hc : Rm.isK c = true) (lim : Nat) (v : Value) (x : Rm.Val) (hv : VA w lim v x) (hlim : lim ≤ w.heap.size) :
    Calls Try.prog 25 #[.int .u8 (c.toNat : Int), v] w fun e w' => VaE w c x e w' := by
  rcases Rm.isK_cases hc with rfl | rfl | rfl | rfl | rfl | rfl | rfl
  · exact rvalue_98 w lim v x hv
  · exact rvalue_119 w lim v x hv
  · exact rvalue_100 w lim v x hv
  · exact rvalue_113 w lim v x hv
  · exact rvalue_118 w lim v x hv
  · exact rvalue_115 w lim v x hv
  · exact rvalue_108 w lim v x hv hlim
end Go.Proofs.Ytkbmkheipmbllaa

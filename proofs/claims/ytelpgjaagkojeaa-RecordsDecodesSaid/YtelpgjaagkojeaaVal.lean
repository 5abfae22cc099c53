/- Values of records in memory; the contracts of the checks of package records. Conditions: a value whose list's cells hold what is said of them. -/
import Derived.Test.YtelpgjaagkojeaaBytes
namespace Go.Proofs.Ytelpgjaagkojeaa
open Go.RowKit

def enc32 (c : UInt32) : Value := .int .u32 (c.toNat : Int)
/-- A value of a record. -/
def VA (w : World) (lim : Nat) (v : Value) (x : Rm.Val) : Prop := ∃ lv, v = .agg #[.int .u64 (x.num : Int), .string ⟨x.str.toArray⟩, lv] ∧ SL enc32 w lim lv x.lst ∧ x.num < 18446744073709551616
section
variable {w w' : World} {lim : Nat} {v : Value} {x : Rm.Val}
theorem VA.below (h : VA w lim v x) {B : Nat} (hb : Below B w w') (hB : lim ≤ B) : VA w' lim v x := by
  obtain ⟨lv, e, hl, hn⟩ := h
  exact ⟨lv, e, hl.below hb hB, hn⟩
theorem VA.mono {l : Nat} (h : VA w lim v x) (hl : lim ≤ l) : VA w l v x := by
  obtain ⟨lv, e, h1, hn⟩ := h
  exact ⟨lv, e, h1.mono hl, hn⟩
end
def kb (c : UInt8) : Nat := if c = 98 then 1 else if c = 119 then 2 else if c = 100 then 4 else if c = 113 then 8 else if c = 118 then 8 else if c = 115 then 1 else 4
def chkF (c : UInt8) : Nat := if c = 115 then 42 else if c = 108 then 45 else 37
def wrF (c : UInt8) : Nat := if c = 118 then 40 else if c = 115 then 43 else if c = 108 then 46 else 38
def rdF (c : UInt8) : Nat := if c = 118 then 41 else if c = 115 then 44 else if c = 108 then 47 else 39
def fnV (n : Nat) : Value := .func (.func n) #[] #[]
/-- What the table has of a letter. -/
def kindV (c : UInt8) : Value := .agg #[.int .u8 (c.toNat : Int), .int .i64 (kb c : Int), (.func (.func (chkF c)) #[] #[]), (.func (.func (wrF c)) #[] #[]), (.func (.func (rdF c)) #[] #[])]
set_option maxRecDepth 100000 in
set_option maxHeartbeats 1000000 in
theorem chkNum_any (w : World) (c : Int) (n E : Nat) (F1 F2 F3 : Value) (lim : Nat) (v : Value) (x : Rm.Val) (hv : VA w lim v x) (hn : n = 1 ∨ n = 2 ∨ n = 4 ∨ n = 8) (hE : E = if x.str ≠ [] ∨ x.lst ≠ [] then 2 else if 256 ^ n ≤ x.num then 7 else 0) :
    Calls Try.prog 37 #[.agg #[.int .u8 c, .int .i64 (n : Int), F1, F2, F3], v] w fun e w' => e = .returned (.int .i64 (E : Int)) ∧ Below w.heap.size w w' := by
  obtain ⟨lv, rfl, hl, h64⟩ := hv
  obtain ⟨A, c0, rfl⟩ := hl.form
  obtain ⟨num, str, lst⟩ := x
  simp only at hl h64 hE ⊢
  clear hl
  have hB : Hid (∀ p q, Below w.heap.size w ((w.alloc p).alloc q)) := fun p q => ((Below.refl _ _).alloc (Nat.le_refl _) _).alloc (by simp) _
  cases str with
  | cons s str =>
    obtain rfl : E = 2 := by rw [hE]; simp
    clear hE
    go_enter Try.func37, Try.ntmps37
    go_wp2_with fail
    go_ret
    exact ⟨rfl, hB.out _ _⟩
  | nil =>
    cases lst with
    | cons s lst =>
      obtain rfl : E = 2 := by rw [hE]; simp
      clear hE
      have hpos : (0 : Int) < ((s :: lst).length : Int) := by simp
      go_enter Try.func37, Try.ntmps37
      go_wp2_with fail
      go_ret
      exact ⟨rfl, hB.out _ _⟩
    | nil =>
      rw [if_neg (by simp)] at hE
      rcases hn with rfl | rfl | rfl | rfl
      all_goals
        split at hE
        all_goals
          rename_i hle
          subst hE
          have hle2 := hle
          simp only [Nat.reducePow] at hle2
          clear hle
          first
          | (exfalso; omega)
          | (go_enter Try.func37, Try.ntmps37
             go_wp2_with fail
             go_ret
             exact ⟨rfl, hB.out _ _⟩)
set_option maxRecDepth 100000 in
set_option maxHeartbeats 1000000 in
theorem chkText_any (w : World) (c : Int) (n E : Nat) (F1 F2 F3 : Value) (lim : Nat) (v : Value) (x : Rm.Val) (hv : VA w lim v x) (hE : E = if x.num ≠ 0 ∨ x.lst ≠ [] then 2 else if 400 < x.str.length then 3 else 0) :
    Calls Try.prog 42 #[.agg #[.int .u8 c, .int .i64 (n : Int), F1, F2, F3], v] w fun e w' => e = .returned (.int .i64 (E : Int)) ∧ Below w.heap.size w w' := by
  obtain ⟨lv, rfl, hl, h64⟩ := hv
  obtain ⟨A, c0, rfl⟩ := hl.form
  obtain ⟨num, str, lst⟩ := x
  simp only at hl h64 hE ⊢
  clear hl
  have hB : Hid (∀ p q, Below w.heap.size w ((w.alloc p).alloc q)) := fun p q => ((Below.refl _ _).alloc (Nat.le_refl _) _).alloc (by simp) _
  by_cases h0 : num = 0
  · subst h0
    cases lst with
    | cons s lst =>
      obtain rfl : E = 2 := by rw [hE]; simp
      clear hE
      have hpos : (0 : Int) < ((s :: lst).length : Int) := by simp
      go_enter Try.func42, Try.ntmps42
      go_wp2_with fail
      go_ret
      exact ⟨rfl, hB.out _ _⟩
    | nil =>
      rw [if_neg (by simp)] at hE
      split at hE
      all_goals
        rename_i hle
        subst hE
        have hle2 : decide ((400 : Int) < (str.length : Int)) = decide (400 < str.length) := by simp; omega
        first
        | rw [decide_eq_true hle] at hle2
        | rw [decide_eq_false hle] at hle2
        clear hle
        go_enter Try.func42, Try.ntmps42
        go_wp2_with fail
        go_ret
        exact ⟨rfl, hB.out _ _⟩
  · obtain rfl : E = 2 := by rw [hE]; simp [h0]
    clear hE
    have hd : ((num : Int) != 0) = true := by rw [bne_iff_ne]; omega
    clear h0
    go_enter Try.func42, Try.ntmps42
    go_wp2_with fail
    go_ret
    exact ⟨rfl, hB.out _ _⟩
set_option maxRecDepth 100000 in
set_option maxHeartbeats 1000000 in
theorem chkList_any (w : World) (c : Int) (n E : Nat) (F1 F2 F3 : Value) (lim : Nat) (v : Value) (x : Rm.Val) (hv : VA w lim v x) (hE : E = if x.num ≠ 0 ∨ x.str ≠ [] then 2 else if 60 < x.lst.length then 3 else 0) :
    Calls Try.prog 45 #[.agg #[.int .u8 c, .int .i64 (n : Int), F1, F2, F3], v] w fun e w' => e = .returned (.int .i64 (E : Int)) ∧ Below w.heap.size w w' := by
  obtain ⟨lv, rfl, hl, h64⟩ := hv
  obtain ⟨A, c0, rfl⟩ := hl.form
  obtain ⟨num, str, lst⟩ := x
  simp only at hl h64 hE ⊢
  clear hl
  have hB : Hid (∀ p q, Below w.heap.size w ((w.alloc p).alloc q)) := fun p q => ((Below.refl _ _).alloc (Nat.le_refl _) _).alloc (by simp) _
  by_cases h0 : num = 0
  · subst h0
    cases str with
    | cons s str =>
      obtain rfl : E = 2 := by rw [hE]; simp
      clear hE
      go_enter Try.func45, Try.ntmps45
      go_wp2_with fail
      go_ret
      exact ⟨rfl, hB.out _ _⟩
    | nil =>
      rw [if_neg (by simp)] at hE
      split at hE
      all_goals
        rename_i hle
        subst hE
        have hle2 : decide ((60 : Int) < (lst.length : Int)) = decide (60 < lst.length) := by simp; omega
        first
        | rw [decide_eq_true hle] at hle2
        | rw [decide_eq_false hle] at hle2
        clear hle
        go_enter Try.func45, Try.ntmps45
        go_wp2_with fail
        go_ret
        exact ⟨rfl, hB.out _ _⟩
  · obtain rfl : E = 2 := by rw [hE]; simp [h0]
    clear hE
    have hd : ((num : Int) != 0) = true := by rw [bne_iff_ne]; omega
    clear h0
    go_enter Try.func45, Try.ntmps45
    go_wp2_with fail
    go_ret
    exact ⟨rfl, hB.out _ _⟩
/-- The check of a letter. -/
theorem chk_any (w : World) (c : UInt8) (hc : Rm.isK c = true) (lim : Nat) (v : Value) (x : Rm.Val) (hv : VA w lim v x) :
    Calls Try.prog (chkF c) #[kindV c, v] w fun e w' => e = .returned (.int .i64 (Rm.valE c x : Int)) ∧ Below w.heap.size w w' := by
  have h64 : x.num < 18446744073709551616 := by obtain ⟨_, _, _, h⟩ := hv; exact h
  rcases Rm.isK_cases hc with rfl | rfl | rfl | rfl | rfl | rfl | rfl
  · exact chkNum_any w 98 1 _ _ _ _ lim v x hv (by omega) (by simp [Rm.valE, Rm.wid])
  · exact chkNum_any w 119 2 _ _ _ _ lim v x hv (by omega) (by simp [Rm.valE, Rm.wid])
  · exact chkNum_any w 100 4 _ _ _ _ lim v x hv (by omega) (by simp [Rm.valE, Rm.wid])
  · exact chkNum_any w 113 8 _ _ _ _ lim v x hv (by omega) (by simp [Rm.valE, Rm.wid])
  · exact chkNum_any w 118 8 _ _ _ _ lim v x hv (by omega) (by simp [Rm.valE, Rm.wid]; rw [if_neg (show ¬ 18446744073709551616 ≤ x.num by omega)])
  · exact chkText_any w 115 1 _ _ _ _ lim v x hv (by simp [Rm.valE])
  · exact chkList_any w 108 4 _ _ _ _ lim v x hv (by simp [Rm.valE])
end Go.Proofs.Ytelpgjaagkojeaa

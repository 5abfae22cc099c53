/- The xor of three strings of bytes, and what one more step does to a mix: plain facts. No condition. -/
import Derived.Test.YtjppcjcflcnliaaDoorMath5
namespace Go.Proofs.YtjppcjcflcnliaaDoor.Cm

/-- n bytes of which the first k are those of f. -/
def fillL (n : Nat) (f : Nat → UInt8) (k : Nat) : List UInt8 := (List.range n).map fun i => if i < k then f i else 0
theorem fillL_len (n : Nat) (f : Nat → UInt8) (k : Nat) : (fillL n f k).length = n := by simp [fillL]
theorem fillL_zero (n : Nat) (f : Nat → UInt8) : fillL n f 0 = List.replicate n 0 := by
  apply List.ext_getElem (by simp [fillL])
  intro i h1 h2
  simp [fillL]
theorem fillL_get (n : Nat) (f : Nat → UInt8) (k i : Nat) (h : i < (fillL n f k).length) : (fillL n f k)[i] = if i < k then f i else 0 := by simp [fillL]
theorem fillL_set (n : Nat) (f : Nat → UInt8) (k : Nat) : (fillL n f k).set k (f k) = fillL n f (k + 1) := by
  apply List.ext_getElem (by simp [fillL])
  intro i h1 h2
  rw [List.getElem_set, fillL_get, fillL_get]
  by_cases e : k = i
  · subst e; rw [if_pos rfl, if_pos (by omega)]
  · rw [if_neg e]
    by_cases h : i < k
    · rw [if_pos h, if_pos (by omega)]
    · rw [if_neg h, if_neg (by omega)]
def fullL (n : Nat) (f : Nat → UInt8) : List UInt8 := (List.range n).map f
theorem fillL_all (n : Nat) (f : Nat → UInt8) : fillL n f n = fullL n f := by
  apply List.map_congr_left
  intro i hi
  rw [if_pos (List.mem_range.1 hi)]
theorem fullL_len (n : Nat) (f : Nat → UInt8) : (fullL n f).length = n := by simp [fullL]
theorem full_self (a : List UInt8) : fullL a.length (fun i => a.getD i 0) = a := by
  apply List.ext_getElem (by simp [fullL])
  intro i h1 h2
  simp [fullL, h2]
/-- The bytes of l, repeated. -/
def repF (l : List UInt8) (i : Nat) : UInt8 := l.getD (i % l.length) 0
def xor3F (a b c : List UInt8) (i : Nat) : UInt8 := a.getD i 0 ^^^ repF b i ^^^ repF c i
theorem go_full (f g h : Nat → UInt8) : ∀ (n s r1 r2 r3 : Nat), go (r1 ^^^ r2 ^^^ r3) ((List.range' s n).map fun i => f i ^^^ g i ^^^ h i) = go r1 ((List.range' s n).map f) ^^^ go r2 ((List.range' s n).map g) ^^^ go r3 ((List.range' s n).map h)
  | 0, _, _, _, _ => rfl
  | n + 1, s, r1, r2, r3 => by
    rw [List.range'_succ, List.map_cons, List.map_cons, List.map_cons, List.map_cons, go_cons, go_cons, go_cons, go_cons, UInt8.toNat_xor, UInt8.toNat_xor, step_xor, step_xor]
    exact go_full f g h n (s + 1) _ _ _
theorem crc_three (n : Nat) (f g h : Nat → UInt8) : crc (fullL n fun i => f i ^^^ g i ^^^ h i) = crc (fullL n f) ^^^ crc (fullL n g) ^^^ crc (fullL n h) := by
  unfold crc on fullL
  have e : (0 : Nat) ^^^ top = top ^^^ top ^^^ top := by rw [Nat.xor_self]
  rw [List.range_eq_range']
  conv => lhs; lhs; rw [e, go_full f g h]
  rw [Nat.zero_xor]
  generalize go top _ = A
  generalize go top _ = B
  generalize go top _ = C
  rw [xor_zero4, ← Nat.xor_assoc]
end Go.Proofs.YtjppcjcflcnliaaDoor.Cm

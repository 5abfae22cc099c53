/- How the sector of a frame comes about, piece by piece. No condition. -/
import Derived.Test.YtiddbdjcdoiloaaDoorFm
namespace Go.Proofs.YtiddbdjcdoiloaaDoor.Fm
open Cm

theorem splice_app (a b c y : List UInt8) (o : Nat) (ho : o = a.length) (hy : y.length = b.length) : splice (a ++ (b ++ c)) o y = a ++ (y ++ c) := by
  subst ho
  unfold splice
  rw [List.take_left, hy, List.append_assoc]
  congr 2
  rw [← List.append_assoc, show a.length + b.length = (a ++ b).length by simp, List.drop_left]
theorem le_one (n : Nat) : le n 1 = [UInt8.ofNat n] := by
  show [byteAt n 0] = _
  unfold byteAt
  rw [Nat.pow_zero, Nat.div_one]
theorem set_splice (l : List UInt8) (o : Nat) (c : UInt8) (h : o < l.length) : l.set o c = splice l o [c] := by
  unfold splice
  rw [List.set_eq_take_append_cons_drop, if_pos h]
  simp
/-- The sector, when the pieces up to a place are laid. -/
def z0 : List UInt8 := List.replicate 128 0
def b1 : List UInt8 := splice z0 0 (le 76 1)
def b2 (k : Nat) : List UInt8 := splice b1 1 (le k 1)
def b3 (k n : Nat) : List UInt8 := splice (b2 k) 2 (le n 1)
def b4 (k n q : Nat) : List UInt8 := splice (b3 k n) 4 (le q 4)
def b5 (f : Frm) : List UInt8 := splice (b4 f.kind f.data.length f.seq) 8 f.data
def b6 (at' : Nat) (f : Frm) : List UInt8 := splice (b5 f) 120 (le at' 4)
def b7 (at' : Nat) (f : Frm) : List UInt8 := splice (b6 at' f) 124 (le (crc ((b6 at' f).take 124)) 4)
theorem z0_len : z0.length = 128 := by simp [z0]
theorem b1_len : b1.length = 128 := by unfold b1; rw [splice_len _ _ _ (by rw [z0_len, le_len]; omega), z0_len]
theorem b2_len (k : Nat) : (b2 k).length = 128 := by unfold b2; rw [splice_len _ _ _ (by rw [b1_len, le_len]; omega), b1_len]
theorem b3_len (k n : Nat) : (b3 k n).length = 128 := by unfold b3; rw [splice_len _ _ _ (by rw [b2_len, le_len]; omega), b2_len]
theorem b4_len (k n q : Nat) : (b4 k n q).length = 128 := by unfold b4; rw [splice_len _ _ _ (by rw [b3_len, le_len]; omega), b3_len]
theorem b5_len (f : Frm) (h : f.data.length ≤ 112) : (b5 f).length = 128 := by unfold b5; rw [splice_len _ _ _ (by rw [b4_len]; omega), b4_len]
theorem b6_len (at' : Nat) (f : Frm) (h : f.data.length ≤ 112) : (b6 at' f).length = 128 := by unfold b6; rw [splice_len _ _ _ (by rw [b5_len f h, le_len]; omega), b5_len f h]
theorem z0_form (n : Nat) (h : n ≤ 112) : z0 = [0] ++ ([0] ++ ([0] ++ ([0] ++ (List.replicate 4 0 ++ (List.replicate n 0 ++ (List.replicate (112 - n) 0 ++ (List.replicate 4 0 ++ List.replicate 4 0))))))) := by
  unfold z0
  simp only [List.replicate_append_replicate]
  rw [show ([0] : List UInt8) = List.replicate 1 0 from rfl]
  simp only [List.replicate_append_replicate]
  congr 1
  omega
theorem b6_form (at' : Nat) (f : Frm) (h : f.data.length ≤ 112) : b6 at' f = headL at' f ++ List.replicate 4 0 := by
  have e1 : b1 = le 76 1 ++ ([0] ++ ([0] ++ ([0] ++ (List.replicate 4 0 ++ (List.replicate f.data.length 0 ++ (List.replicate (112 - f.data.length) 0 ++ (List.replicate 4 0 ++ List.replicate 4 0))))))) := by
    unfold b1
    rw [z0_form f.data.length h]
    exact splice_app [] [0] _ (le 76 1) 0 rfl (by rw [le_len]; rfl)
  have e2 : b2 f.kind = le 76 1 ++ (le f.kind 1 ++ ([0] ++ ([0] ++ (List.replicate 4 0 ++ (List.replicate f.data.length 0 ++ (List.replicate (112 - f.data.length) 0 ++ (List.replicate 4 0 ++ List.replicate 4 0))))))) := by
    unfold b2
    rw [e1]
    exact splice_app (le 76 1) [0] _ (le f.kind 1) 1 (by rw [le_len]) (by rw [le_len]; rfl)
  have e3 : b3 f.kind f.data.length = (le 76 1 ++ le f.kind 1) ++ (le f.data.length 1 ++ ([0] ++ (List.replicate 4 0 ++ (List.replicate f.data.length 0 ++ (List.replicate (112 - f.data.length) 0 ++ (List.replicate 4 0 ++ List.replicate 4 0)))))) := by
    unfold b3
    rw [e2, ← List.append_assoc]
    exact splice_app (le 76 1 ++ le f.kind 1) [0] _ (le f.data.length 1) 2 (by simp [le_len]) (by rw [le_len]; rfl)
  have e4 : b4 f.kind f.data.length f.seq = (((le 76 1 ++ le f.kind 1) ++ le f.data.length 1) ++ [0]) ++ (le f.seq 4 ++ (List.replicate f.data.length 0 ++ (List.replicate (112 - f.data.length) 0 ++ (List.replicate 4 0 ++ List.replicate 4 0)))) := by
    unfold b4
    rw [e3, ← List.append_assoc, ← List.append_assoc]
    exact splice_app (((le 76 1 ++ le f.kind 1) ++ le f.data.length 1) ++ [0]) (List.replicate 4 0) _ (le f.seq 4) 4 (by simp [le_len]) (by rw [le_len]; rfl)
  have e5 : b5 f = ((((le 76 1 ++ le f.kind 1) ++ le f.data.length 1) ++ [0]) ++ le f.seq 4) ++ (f.data ++ (List.replicate (112 - f.data.length) 0 ++ (List.replicate 4 0 ++ List.replicate 4 0))) := by
    unfold b5
    rw [e4, ← List.append_assoc]
    exact splice_app ((((le 76 1 ++ le f.kind 1) ++ le f.data.length 1) ++ [0]) ++ le f.seq 4) (List.replicate f.data.length 0) _ f.data 8 (by simp [le_len]) (by simp)
  unfold b6
  rw [e5, ← List.append_assoc, ← List.append_assoc]
  have e6 := splice_app ((((((le 76 1 ++ le f.kind 1) ++ le f.data.length 1) ++ [0]) ++ le f.seq 4) ++ f.data) ++ List.replicate (112 - f.data.length) 0) (List.replicate 4 0) (List.replicate 4 0) (le at' 4) 120 (by simp [le_len]; omega) (by rw [le_len]; rfl)
  rw [e6]
  unfold headL
  rw [le_one, le_one, le_one]
  simp only [List.append_assoc, List.cons_append, List.nil_append]
  rfl
theorem b6_take (at' : Nat) (f : Frm) (h : f.data.length ≤ 112) : (b6 at' f).take 124 = headL at' f := by
  rw [b6_form at' f h, List.take_append_of_le_length (by rw [headL_len at' f h]; omega), List.take_of_length_le (by rw [headL_len at' f h]; omega)]
theorem b7_form (at' : Nat) (f : Frm) (h : f.data.length ≤ 112) : b7 at' f = sealL at' f := by
  unfold b7
  rw [b6_take at' f h, b6_form at' f h]
  have e := splice_app (headL at' f) (List.replicate 4 0) [] (le (crc (headL at' f)) 4) 124 (by rw [headL_len at' f h]) (by rw [le_len]; rfl)
  rw [List.append_nil, List.append_nil] at e
  exact e
/-- Bytes laid one by one. -/
theorem splice_snoc (l : List UInt8) (o : Nat) (y : List UInt8) (k : Nat) (hk : k < y.length) (h : o + y.length ≤ l.length) : (splice l o (y.take k)).set (o + k) y[k] = splice l o (y.take (k + 1)) := by
  unfold splice
  have hl : (y.take k).length = k := by rw [List.length_take]; omega
  have hl1 : (y.take (k + 1)).length = k + 1 := by rw [List.length_take]; omega
  have e : l.drop (o + k) = (l[o + k]'(by omega)) :: l.drop (o + k + 1) := by rw [List.drop_eq_getElem_cons]
  rw [hl, hl1, e, List.set_append_right _ _ (by rw [List.length_append, List.length_take, hl]; omega)]
  have : o + k - (l.take o ++ y.take k).length = 0 := by rw [List.length_append, List.length_take, hl]; omega
  rw [this, List.set_cons_zero]
  have e2 : y.take (k + 1) = y.take k ++ [y[k]] := List.take_succ_eq_append_getElem hk
  rw [e2]
  simp only [Nat.add_assoc, List.append_assoc, List.cons_append, List.nil_append]
end Go.Proofs.YtiddbdjcdoiloaaDoor.Fm

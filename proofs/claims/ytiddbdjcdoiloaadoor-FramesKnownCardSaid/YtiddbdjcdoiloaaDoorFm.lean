/- Frames as plain data: numbers in bytes, the sector of a frame, the frame of a sector, bursts. No condition. -/
import Derived.Test.YtiddbdjcdoiloaaDoorMath5
namespace Go.Proofs.YtiddbdjcdoiloaaDoor.Fm
open Cm

/-- Bytes laid over others. -/
def splice (l : List UInt8) (o : Nat) (y : List UInt8) : List UInt8 := l.take o ++ y ++ l.drop (o + y.length)
theorem splice_len (l : List UInt8) (o : Nat) (y : List UInt8) (h : o + y.length ≤ l.length) : (splice l o y).length = l.length := by
  unfold splice; rw [List.length_append, List.length_append, List.length_take, List.length_drop]; omega
/-- The first k bytes of a number. -/
def le (n k : Nat) : List UInt8 := (List.range k).map fun i => byteAt n i
theorem le_len (n k : Nat) : (le n k).length = k := by simp [le]
theorem le_succ (n k : Nat) : le n (k + 1) = le n k ++ [byteAt n k] := by unfold le; rw [List.range_succ, List.map_append]; rfl
theorem le_four (n : Nat) : le n 4 = [byteAt n 0, byteAt n 1, byteAt n 2, byteAt n 3] := rfl
theorem splice_le_set (l : List UInt8) (o n k : Nat) (h : o + k < l.length) : (splice l o (le n k)).set (o + k) (byteAt n k) = splice l o (le n (k + 1)) := by
  unfold splice
  have e : l.drop (o + k) = l[o + k]'h :: l.drop (o + k + 1) := by rw [List.drop_eq_getElem_cons]
  rw [le_len, le_len, le_succ, e, List.set_append_right _ _ (by rw [List.length_append, List.length_take, le_len]; omega)]
  have : o + k - (l.take o ++ le n k).length = 0 := by rw [List.length_append, List.length_take, le_len]; omega
  rw [this, List.set_cons_zero]
  simp [Nat.add_assoc]
theorem splice_nil (l : List UInt8) (o : Nat) : splice l o [] = l := by simp [splice]
/-- The number of k bytes. -/
def num : List UInt8 → Nat
  | [] => 0
  | c :: r => c.toNat + 256 * num r
theorem num_snoc (l : List UInt8) (c : UInt8) : num (l ++ [c]) = num l + c.toNat * 256 ^ l.length := by
  induction l with
  | nil => simp [num]
  | cons d r ih => rw [List.cons_append, num, ih, num, List.length_cons, Nat.pow_succ, Nat.mul_add, Nat.add_assoc, Nat.mul_comm 256 (c.toNat * 256 ^ r.length), Nat.mul_assoc]
theorem num_lt (l : List UInt8) : num l < 256 ^ l.length := by
  induction l with
  | nil => simp [num]
  | cons d r ih =>
    have h := d.toNat_lt
    rw [num, List.length_cons, Nat.pow_succ]
    have : 256 * num r + 256 ≤ 256 * 256 ^ r.length := by
      have := Nat.mul_le_mul_left 256 ih
      rw [Nat.succ_eq_add_one, Nat.mul_add] at this; exact this
    omega
theorem num_le (n k : Nat) : num (le n k) = n % 256 ^ k := by
  induction k with
  | zero => simp [le, num, Nat.mod_one]
  | succ k ih =>
    rw [le_succ, num_snoc, ih, le_len, byteAt_nat, Nat.pow_succ]
    rw [Nat.mod_mul, Nat.mul_comm (n / 256 ^ k % 256)]
theorem num_four (n : Nat) (h : n < 4294967296) : num (le n 4) = n := by
  rw [num_le]; exact Nat.mod_eq_of_lt h
theorem le_num : ∀ (l : List UInt8), le (num l) l.length = l := fun l => by
  apply List.ext_getElem
  · exact le_len _ _
  · intro i h1 h2
    have hg : (le (num l) l.length)[i] = byteAt (num l) i := by simp [le]
    rw [hg]
    have key : ∀ (l : List UInt8) (i : Nat) (h : i < l.length), byteAt (num l) i = l[i] := by
      intro l
      induction l with
      | nil => intro i h; simp at h
      | cons c r ih =>
        intro i h
        have hc := c.toNat_lt
        cases i with
        | zero =>
          apply UInt8.toNat_inj.1
          rw [byteAt_nat, num, Nat.pow_zero, Nat.div_one]
          show (c.toNat + 256 * num r) % 256 = c.toNat
          omega
        | succ i =>
          have := ih i (by simpa using h)
          rw [List.getElem_cons_succ, ← this]
          apply UInt8.toNat_inj.1
          rw [byteAt_nat, byteAt_nat, num, Nat.pow_succ, Nat.mul_comm (256 ^ i) 256, ← Nat.div_div_eq_div_mul]
          congr 2
          omega
    exact key l i h2
/-- The bytes from o on, k of them. -/
def sub (l : List UInt8) (o k : Nat) : List UInt8 := (l.drop o).take k
theorem sub_len (l : List UInt8) (o k : Nat) (h : o + k ≤ l.length) : (sub l o k).length = k := by unfold sub; rw [List.length_take, List.length_drop]; omega
/-- A frame: its kind, its number, its data. -/
structure Frm where
  kind : Nat
  seq : Nat
  data : List UInt8
/-- What a sector has before its checksum, and the whole one. -/
def headL (at' : Nat) (f : Frm) : List UInt8 := [76, UInt8.ofNat f.kind, UInt8.ofNat f.data.length, 0] ++ le f.seq 4 ++ f.data ++ List.replicate (112 - f.data.length) 0 ++ le at' 4
def sealL (at' : Nat) (f : Frm) : List UInt8 := headL at' f ++ le (crc (headL at' f)) 4
structure FrOk (f : Frm) : Prop where
  k0 : 1 ≤ f.kind
  k1 : f.kind ≤ 255
  seq : f.seq < 4294967296
  data : f.data.length ≤ 112
theorem headL_len (at' : Nat) (f : Frm) (h : f.data.length ≤ 112) : (headL at' f).length = 124 := by
  unfold headL; simp only [List.length_append, List.length_cons, List.length_nil, le_len, List.length_replicate]; omega
theorem sealL_len (at' : Nat) (f : Frm) (h : f.data.length ≤ 112) : (sealL at' f).length = 128 := by
  unfold sealL; rw [List.length_append, headL_len at' f h, le_len]
theorem sealL_head (at' : Nat) (f : Frm) (h : f.data.length ≤ 112) : (sealL at' f).take 124 = headL at' f := by
  unfold sealL; rw [List.take_append_of_le_length (by rw [headL_len at' f h]; omega), List.take_of_length_le (by rw [headL_len at' f h]; omega)]
theorem sealL_sum (at' : Nat) (f : Frm) (h : f.data.length ≤ 112) : sub (sealL at' f) 124 4 = le (crc (headL at' f)) 4 := by
  unfold sub sealL; rw [List.drop_append_of_le_length (by rw [headL_len at' f h]; omega), List.drop_of_length_le (by rw [headL_len at' f h]; omega), List.nil_append, List.take_of_length_le (by rw [le_len]; omega)]
/-- The parts of a sector. -/
def kindOf (l : List UInt8) : Nat := (l.getD 1 0).toNat
def lenOf (l : List UInt8) : Nat := (l.getD 2 0).toNat
def frOf (l : List UInt8) : Frm := ⟨kindOf l, num (sub l 4 4), sub l 8 (lenOf l)⟩
def placeOf (l : List UInt8) : Nat := num (sub l 120 4)
def sumOk (l : List UInt8) : Prop := num (sub l 124 4) = crc (l.take 124)
theorem sub_app (a b : List UInt8) (o k : Nat) (h : o = a.length) : sub (a ++ b) o k = b.take k := by
  unfold sub; subst h; rw [List.drop_append_of_le_length (Nat.le_refl _), List.drop_length, List.nil_append]
theorem sealL_form (at' : Nat) (f : Frm) : sealL at' f = [76, UInt8.ofNat f.kind, UInt8.ofNat f.data.length, 0] ++ (le f.seq 4 ++ (f.data ++ (List.replicate (112 - f.data.length) 0 ++ (le at' 4 ++ le (crc (headL at' f)) 4)))) := by
  unfold sealL headL; simp only [List.append_assoc]
theorem seal_kind (at' : Nat) (f : Frm) (h : FrOk f) : kindOf (sealL at' f) = f.kind := by
  rw [sealL_form]; show (UInt8.ofNat f.kind).toNat = f.kind
  rw [UInt8.toNat_ofNat']; have := h.k1; omega
theorem seal_size (at' : Nat) (f : Frm) (h : f.data.length ≤ 112) : lenOf (sealL at' f) = f.data.length := by
  rw [sealL_form]; show (UInt8.ofNat f.data.length).toNat = f.data.length
  rw [UInt8.toNat_ofNat']; omega
theorem seal_seq (at' : Nat) (f : Frm) (h : FrOk f) : num (sub (sealL at' f) 4 4) = f.seq := by
  rw [sealL_form, sub_app _ _ 4 4 rfl, List.take_append_of_le_length (by rw [le_len]; omega), List.take_of_length_le (by rw [le_len]; omega), num_four _ h.seq]
theorem seal_data (at' : Nat) (f : Frm) : sub (sealL at' f) 8 f.data.length = f.data := by
  rw [sealL_form, ← List.append_assoc, sub_app _ _ 8 _ rfl, List.take_append_of_le_length (Nat.le_refl _), List.take_length]
theorem seal_place (at' : Nat) (f : Frm) (h : f.data.length ≤ 112) (ha : at' < 256) : placeOf (sealL at' f) = at' := by
  unfold placeOf
  rw [sealL_form, ← List.append_assoc, ← List.append_assoc, ← List.append_assoc, sub_app _ _ 120 4 ?_, List.take_append_of_le_length (by rw [le_len]; omega), List.take_of_length_le (by rw [le_len]; omega), num_four _ (by omega)]
  simp only [List.length_append, List.length_cons, List.length_nil, le_len, List.length_replicate]; omega
theorem seal_fr (at' : Nat) (f : Frm) (h : FrOk f) : frOf (sealL at' f) = f := by
  unfold frOf
  rw [seal_kind at' f h, seal_seq at' f h, seal_size at' f h.data, seal_data at' f]
theorem seal_sumOk (at' : Nat) (f : Frm) (h : f.data.length ≤ 112) : sumOk (sealL at' f) := by
  unfold sumOk
  rw [sealL_sum at' f h, sealL_head at' f h, num_four _ (crc_lt _)]
/-- The error of a seal. -/
def seE (at' kind : Int) (n : Nat) : Int := if at' < 0 ∨ 256 ≤ at' ∨ kind < 1 ∨ 255 < kind then 7 else if 112 < n then 3 else 0
/-- Is a sector that of a frame? -/
def formed (l : List UInt8) : Prop := placeOf l < 256 ∧ 1 ≤ kindOf l ∧ lenOf l ≤ 112 ∧ sealL (placeOf l) (frOf l) = l
open Classical in
/-- The error of an open. -/
noncomputable def opE (at' : Int) (l : List UInt8) : Int :=
  if at' < 0 ∨ 256 ≤ at' then 7 else if l = List.replicate 128 0 then 70 else if ¬ sumOk l then 71 else if ¬ formed l then 6 else if (placeOf l : Int) ≠ at' then 72 else 0
/-- The frame of an open. -/
noncomputable def opF (at' : Int) (l : List UInt8) : Frm := if opE at' l = 0 then frOf l else ⟨0, 0, []⟩
theorem seal_formed (at' : Nat) (f : Frm) (h : FrOk f) (ha : at' < 256) : formed (sealL at' f) := by
  refine ⟨?_, ?_, ?_, ?_⟩
  · rw [seal_place at' f h.data ha]; exact ha
  · rw [seal_kind at' f h]; exact h.k0
  · rw [seal_size at' f h.data]; exact h.data
  · rw [seal_place at' f h.data ha, seal_fr at' f h]
theorem seal_ne (at' : Nat) (f : Frm) : sealL at' f ≠ List.replicate 128 0 := by
  rw [sealL_form]
  intro h
  have := congrArg (fun l => l.getD 0 0) h
  have e : (76 : UInt8) = 0 := this
  exact absurd e (by decide)
theorem opE_seal (at' : Nat) (o : Int) (f : Frm) (h : FrOk f) (ha : at' < 256) (ho : 0 ≤ o ∧ o < 256) : opE o (sealL at' f) = if (at' : Int) = o then 0 else 72 := by
  unfold opE
  rw [if_neg (by omega), if_neg (seal_ne at' f), if_neg (by simpa using seal_sumOk at' f h.data), if_neg (by simpa using seal_formed at' f h ha), seal_place at' f h.data ha]
  by_cases e : (at' : Int) = o
  · rw [if_neg (by simpa using e), if_pos e]
  · rw [if_pos e, if_neg e]
theorem opF_seal (at' : Nat) (f : Frm) (h : FrOk f) (ha : at' < 256) : opF (at' : Int) (sealL at' f) = f := by
  unfold opF
  rw [opE_seal at' _ f h ha (by omega), if_pos rfl, if_pos rfl, seal_fr at' f h]
/-- What a good open says. -/
theorem opE_zero {o : Int} {l : List UInt8} (h : opE o l = 0) : 0 ≤ o ∧ o < 256 ∧ l ≠ List.replicate 128 0 ∧ sumOk l ∧ formed l ∧ (placeOf l : Int) = o := by
  unfold opE at h
  split at h
  · omega
  · rename_i h1
    split at h
    · omega
    · rename_i h2
      split at h
      · omega
      · rename_i h3
        split at h
        · omega
        · rename_i h4
          split at h
          · omega
          · rename_i h5
            exact ⟨by omega, by omega, h2, by simpa using h3, by simpa using h4, by simpa using h5⟩
theorem formed_ok {l : List UInt8} (hl : l.length = 128) (h : formed l) : FrOk (frOf l) := by
  obtain ⟨_, h2, h3, _⟩ := h
  refine ⟨h2, ?_, ?_, ?_⟩
  · show (l.getD 1 0).toNat ≤ 255
    have := (l.getD 1 0).toNat_lt; omega
  · show num (sub l 4 4) < 4294967296
    have := num_lt (sub l 4 4)
    rw [sub_len _ _ _ (by omega)] at this; exact this
  · show (sub l 8 (lenOf l)).length ≤ 112
    unfold sub; rw [List.length_take]; omega
/-! ### the checksum of all bytes -/
theorem go_all (x : List UInt8) (s : Nat) (hs : s < 4294967296) : go top (x ++ le s 4) = zs 4 (go top x ^^^ s) := by
  rw [go_append, le_four, go_four _ _ hs]
theorem zs_inj {k a b : Nat} (ha : a < 4294967296) (hb : b < 4294967296) (h : zs k a = zs k b) : a = b := by
  have e : zs k (a ^^^ b) = 0 := by rw [zs_xor, h, Nat.xor_self]
  have := backs_zs k (xor_lt ha hb)
  rw [e] at this
  have h0 : backs k 0 = 0 := by
    have h1 := backs_zs (r := 0) k (by omega)
    rw [zs_zero] at h1; exact h1
  rw [h0] at this
  exact xor_eq_zero this.symm
/-- A sector has its checksum exactly if all of its bytes lead to one number. -/
theorem sumOk_iff {l : List UInt8} (hl : l.length = 128) : sumOk l ↔ go top l = zs 4 top := by
  have e : l = l.take 124 ++ le (num (sub l 124 4)) 4 := by
    have h4 : (sub l 124 4).length = 4 := sub_len _ _ _ (by omega)
    have := le_num (sub l 124 4)
    rw [h4] at this
    rw [this]
    unfold sub
    rw [List.take_of_length_le (l := l.drop 124) (by rw [List.length_drop]; omega), List.take_append_drop]
  have hs : num (sub l 124 4) < 4294967296 := by
    have := num_lt (sub l 124 4)
    rw [sub_len _ _ _ (by omega)] at this; exact this
  have hg : go top (l.take 124) < 4294967296 := go_lt _ top_lt
  unfold sumOk
  constructor
  · intro h
    have h2 := go_all (l.take 124) _ hs
    rw [← e] at h2
    rw [h2, h]
    unfold crc on
    rw [Nat.zero_xor, ← Nat.xor_assoc, Nat.xor_self, Nat.zero_xor]
  · intro h
    have h2 := go_all (l.take 124) _ hs
    rw [← e] at h2
    have h3 := zs_inj (xor_lt hg hs) top_lt (h2.symm.trans h)
    unfold crc on
    have h4 : num (sub l 124 4) = go top (l.take 124) ^^^ top := by
      have h5 := congrArg (go top (l.take 124) ^^^ ·) h3
      simp only [← Nat.xor_assoc, Nat.xor_self, Nat.zero_xor] at h5
      exact h5
    rw [Nat.zero_xor]; exact h4
theorem flipL_same (y : List UInt8) (p pat : Nat) : ∀ k, chgB y.length p pat k = false → flipL y p pat k = y
  | 0, _ => rfl
  | k + 1, h => by
    unfold chgB at h
    rw [Bool.or_eq_false_iff, Bool.and_eq_false_iff] at h
    unfold flipL
    rw [if_neg, flipL_same y p pat k h.1]
    rintro ⟨h1, h2⟩
    rcases h.2 with h3 | h3
    · rw [h1] at h3; cases h3
    · exact absurd h2 (by simpa using h3)
/-- One byte that is changed. -/
theorem byte_open (l : List UInt8) (i : Nat) (v : UInt8) (o : Int) (hl : l.length = 128) (hs : sumOk l) (hi : i < l.length) (h : opE o (l.set i v) = 0) : v = l[i] := by
  obtain ⟨_, _, _, h2, _⟩ := opE_zero h
  have e1 := (sumOk_iff hl).1 hs
  have e2 := (sumOk_iff (by rw [List.length_set]; exact hl)).1 h2
  rw [go_set _ _ _ _ hi, e1] at e2
  have hx : v.toNat ^^^ l[i].toNat < 4294967296 := xor_lt (by have := v.toNat_lt; omega) (by have := l[i].toNat_lt; omega)
  have h0 : zs (l.length - i) (v.toNat ^^^ l[i].toNat) = zs (l.length - i) 0 := by
    rw [zs_zero]
    have := congrArg (zs 4 top ^^^ ·) e2
    simp only [← Nat.xor_assoc, Nat.xor_self, Nat.zero_xor] at this
    exact this
  exact UInt8.toNat_inj.1 (xor_eq_zero (zs_inj hx (by omega) h0))
/-- A burst: bits turned among 32 in a row. -/
theorem burst_open (l : List UInt8) (p pat : Nat) (o : Int) (hl : l.length = 128) (hs : sumOk l) (hp : p < 1024) (h32 : pat < 4294967296) (h : opE o (flipL l p pat 32) = 0) : flipL l p pat 32 = l := by
  obtain ⟨_, _, _, h2, _⟩ := opE_zero h
  have hl2 : (flipL l p pat 32).length = 128 := by rw [flipL_len, hl]
  have e1 := (sumOk_iff hl).1 hs
  have e2 := (sumOk_iff hl2).1 h2
  have hg : go (0 ^^^ top) l = go (0 ^^^ top) (flipL l p pat 32) := by rw [Nat.zero_xor, e1, e2]
  have hc := (burst_law l p pat (by omega) h32).1 (by unfold crc on; rw [hg])
  exact flipL_same l p pat 32 hc
end Go.Proofs.YtiddbdjcdoiloaaDoor.Fm

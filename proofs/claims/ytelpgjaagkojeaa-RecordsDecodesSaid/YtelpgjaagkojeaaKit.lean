/- Arguments of the laws of this seat, opened as lists. No condition. -/
import Derived.Test.YtelpgjaagkojeaaDec
import Derived.ProofKit
import Derived.OpenShut
import Derived.Carry
import Derived.Deep.Slices
import Derived.ChangeArms
import Derived.ChangeMaps5
namespace Go.Proofs.Ytelpgjaagkojeaa
open Go.ChangeShapes Go.WideShapes Go.RowKit Go.Deep Go.ChangeMaps

theorem cellsU8 : Try.prog.cellsOf 5 = 1 := by kernel_rfl
theorem cellsU32 : Try.prog.cellsOf 52 = 1 := by kernel_rfl
theorem cellsU64 : Try.prog.cellsOf 46 = 1 := by kernel_rfl
theorem cellsStr : Try.prog.cellsOf 9 = 1 := by kernel_rfl
theorem cellsL32 : Try.prog.cellsOf 47 = 1 := by kernel_rfl
theorem cRc : Try.prog.cellsOf 49 = 3 := by kernel_rfl
theorem laidOut : laidOutB Try.prog = true := by kernel_rfl
theorem u8_of_wf {x : Int} (h : (Lit.int .u8 x).wf = true) : 0 ≤ x ∧ x < 256 := by
  have h1 : IntKind.u8.min = 0 := rfl
  have h2 : IntKind.u8.max = 255 := rfl
  simp only [Lit.wf, Bool.and_eq_true, decide_eq_true_eq] at h
  omega
theorem u16_of_wf {x : Int} (h : (Lit.int .u16 x).wf = true) : 0 ≤ x ∧ x < 65536 := by
  have h1 : IntKind.u16.min = 0 := rfl
  have h2 : IntKind.u16.max = 65535 := rfl
  simp only [Lit.wf, Bool.and_eq_true, decide_eq_true_eq] at h
  omega
theorem u32_of_wf {x : Int} (h : (Lit.int .u32 x).wf = true) : 0 ≤ x ∧ x < 4294967296 := by
  have h1 : IntKind.u32.min = 0 := rfl
  have h2 : IntKind.u32.max = 4294967295 := rfl
  simp only [Lit.wf, Bool.and_eq_true, decide_eq_true_eq] at h
  omega
theorem u64_of_wf {x : Int} (h : (Lit.int .u64 x).wf = true) : 0 ≤ x ∧ x < 18446744073709551616 := by
  have h1 : IntKind.u64.min = 0 := rfl
  have h2 : IntKind.u64.max = 18446744073709551615 := rfl
  simp only [Lit.wf, Bool.and_eq_true, decide_eq_true_eq] at h
  omega
theorem i64_of_wf {n : Int} (h : (Lit.int .i64 n).wf = true) : -9223372036854775808 ≤ n ∧ n ≤ 9223372036854775807 := by
  simp only [Lit.wf, Bool.and_eq_true, decide_eq_true_eq] at h
  exact h
/-- Cells of a slice of bytes. -/
theorem bytes_of_trod {H : Type} {enc : TypeId × Value → H} {W : World} {fuel : Nat} {v : Value} {x : DataW H × List MemPlace} (hf : DataW.trod enc Try.prog W 0 (fun _ => true) true fuel 25 [v] = some x) :
    ∃ y : List UInt8, SL encB W W.heap.size v y ∧ y.length ≤ 9223372036854775807 := by
  rcases open_ints Try.underlying25 Try.underlying5 cellsU8 hf with ⟨hcs, hx⟩ | ⟨a, len, cap, zs, hcs, _, hl, hm, hz, hx, hcell, hwz⟩
  · simp at hcs
    subst hcs
    exact ⟨[], SL.nil _ _, by simp⟩
  · simp at hcs
    subst hcs
    simp only [if_true] at hz
    unfold maxLen at hm
    have hlen : ((zs.take len).map fun n => UInt8.ofNat n.toNat).length = len := by simp; omega
    refine ⟨(zs.take len).map fun n => UInt8.ofNat n.toNat, ?_, by rw [hlen]; omega⟩
    by_cases h0 : len = 0
    · subst h0
      exact .inl ⟨by simp, .inr ⟨a, cap, rfl⟩⟩
    · obtain ⟨ab, ao, spot⟩ := a
      have hspot : spot = none := by simpa [Addr.add] using World.cell?_spot (hcell 0 (by omega))
      subst hspot
      have hb : ab < W.heap.size := by have := World.block_lt_of_cell? _ _ (hcell 0 (by omega)); simpa [Addr.add_lit] using this
      refine .inr ⟨ab, ao, cap, by rw [hlen], hb, by rw [hlen]; omega, fun i hi => ?_⟩
      rw [hlen] at hi
      have hcj := hcell i (by omega)
      rw [Addr.add_lit] at hcj
      rw [hcj]
      have e : zs.getD i 0 = zs[i]'(by omega) := by simp [List.getD, List.getElem?_eq_getElem (show i < zs.length by omega)]
      have hw := u8_of_wf (hwz (zs[i]'(by omega)) (List.getElem_mem _))
      rw [e]
      unfold encB
      simp only [List.getElem_map, List.getElem_take]
      congr 2
      simp only [UInt8.toNat_ofNat']
      omega
/-- Cells of a slice of numbers of 32 bits. -/
theorem u32s_of_trod {H : Type} {enc : TypeId × Value → H} {W : World} {fuel : Nat} {v : Value} {x : DataW H × List MemPlace} (hf : DataW.trod enc Try.prog W 0 (fun _ => true) true fuel 47 [v] = some x) :
    ∃ y : List UInt32, SL enc32 W W.heap.size v y ∧ y.length ≤ 9223372036854775807 := by
  rcases open_ints Try.underlying47 Try.underlying52 cellsU32 hf with ⟨hcs, hx⟩ | ⟨a, len, cap, zs, hcs, _, hl, hm, hz, hx, hcell, hwz⟩
  · simp at hcs
    subst hcs
    exact ⟨[], SL.nil _ _, by simp⟩
  · simp at hcs
    subst hcs
    simp only [if_true] at hz
    unfold maxLen at hm
    have hlen : ((zs.take len).map fun n => UInt32.ofNat n.toNat).length = len := by simp; omega
    refine ⟨(zs.take len).map fun n => UInt32.ofNat n.toNat, ?_, by rw [hlen]; omega⟩
    by_cases h0 : len = 0
    · subst h0
      exact .inl ⟨by simp, .inr ⟨a, cap, rfl⟩⟩
    · obtain ⟨ab, ao, spot⟩ := a
      have hspot : spot = none := by simpa [Addr.add] using World.cell?_spot (hcell 0 (by omega))
      subst hspot
      have hb : ab < W.heap.size := by have := World.block_lt_of_cell? _ _ (hcell 0 (by omega)); simpa [Addr.add_lit] using this
      refine .inr ⟨ab, ao, cap, by rw [hlen], hb, by rw [hlen]; omega, fun i hi => ?_⟩
      rw [hlen] at hi
      have hcj := hcell i (by omega)
      rw [Addr.add_lit] at hcj
      rw [hcj]
      have e : zs.getD i 0 = zs[i]'(by omega) := by simp [List.getD, List.getElem?_eq_getElem (show i < zs.length by omega)]
      have hw := u32_of_wf (hwz (zs[i]'(by omega)) (List.getElem_mem _))
      rw [e]
      unfold enc32
      simp only [List.getElem_map, List.getElem_take]
      congr 2
      simp only [UInt32.toNat_ofNat']
      omega
/-- Cells of a value of a record. -/
theorem val_of_trod {H : Type} {enc : TypeId × Value → H} {W : World} {fuel : Nat} {cs : List Value} {x : DataW H × List MemPlace}
    (h : DataW.trod enc Try.prog W 0 (fun _ => true) true fuel 49 cs = some x) :
    ∃ (z : Rm.Val) (lv : Value), cs = [.int .u64 (z.num : Int), .string ⟨z.str.toArray⟩, lv] ∧ SL enc32 W W.heap.size lv z.lst ∧ z.num < 18446744073709551616 ∧ z.lst.length ≤ 9223372036854775807 := by
  obtain ⟨ys, n, _, _, hlen, hyl, hf⟩ := DataW.trod_struct Try.underlying49 h
  rw [cRc] at hlen
  obtain ⟨v0, v1, v2, rfl⟩ : ∃ v0 v1 v2, cs = [v0, v1, v2] := by
    match cs, hlen with
    | [a, b, c], _ => exact ⟨a, b, c, rfl⟩
  match ys, hyl with
  | [y0, y1, y2], _ =>
    have f0 := hf 0 _ rfl
    have f1 := hf 1 _ rfl
    have f2 := hf 2 _ rfl
    obtain ⟨n0, e0, _, w0⟩ := DataW.trod_int Try.underlying46 f0
    obtain ⟨s1, e1, _, _⟩ := DataW.trod_string Try.underlying9 f1
    have g0 : v0 = .int .u64 n0 := (List.cons.inj e0).1
    have g1 : v1 = .string s1 := (List.cons.inj e1).1
    obtain ⟨l, hl, hll⟩ := u32s_of_trod (v := v2) f2
    have b0 := u64_of_wf w0
    refine ⟨⟨n0.toNat, s1.data.toList, l⟩, v2, ?_, hl, by show n0.toNat < _; omega, hll⟩
    rw [g0, g1, Int.toNat_of_nonneg b0.1]
/-- Cells of a slice of values. -/
theorem vals_of_trod {H : Type} {enc : TypeId × Value → H} {W : World} {fuel : Nat} {v : Value} {x : DataW H × List MemPlace} (hf : DataW.trod enc Try.prog W 0 (fun _ => true) true fuel 22 [v] = some x) :
    ∃ l : List Rm.Val, VL W W.heap.size v l ∧ l.length ≤ 9223372036854775807 ∧ ∀ z ∈ l, z.lst.length ≤ 9223372036854775807 := by
  rcases open_slice Try.underlying22 hf with ⟨hcs, _⟩ | ⟨a, len, cap, m, n, D, Pl, hcs, _, hl, hm, hmm, _, hi⟩
  · simp at hcs
    subst hcs
    exact ⟨[], VL.nil _ _, by simp, fun z hz => by simp at hz⟩
  · simp at hcs
    subst hcs
    simp only [if_true] at hmm
    unfold maxLen at hm
    by_cases h0 : len = 0
    · subst h0
      exact ⟨[], .inl ⟨rfl, some a, cap, rfl⟩, by simp, fun z hz => by simp at hz⟩
    · obtain ⟨ab, ao, spot⟩ := a
      have hspot : spot = none := by
        obtain ⟨cs', hc, _⟩ := hi 0 (by omega)
        obtain ⟨_, hlen, hat⟩ := World.cells?_some hc
        rw [cRc] at hat hlen
        have c0 := hat 0 (by omega)
        rw [List.getElem?_eq_getElem (by omega)] at c0
        simpa [Addr.add] using World.cell?_spot c0
      subst hspot
      have key : ∀ j, j < len → ∃ z : Rm.Val, ab < W.heap.size ∧ VAt W W.heap.size ab (ao + j * 3) z ∧ z.lst.length ≤ 9223372036854775807 := by
        intro j hj
        obtain ⟨cs', hc, ht⟩ := hi j (by omega)
        obtain ⟨z, lv, rfl, h1, h2, h3⟩ := val_of_trod ht
        obtain ⟨_, _, hat⟩ := World.cells?_some hc
        rw [cRc] at hat
        have c0 := hat 0 (by omega)
        have c1 := hat 1 (by omega)
        have c2 := hat 2 (by omega)
        rw [Addr.add_lit, Addr.add_lit] at c0 c1 c2
        have hb : ab < W.heap.size := by have := World.block_lt_of_cell? _ _ c0; simpa using this
        exact ⟨z, hb, ⟨lv, by simpa using c0, by simpa using c1, by simpa using c2, h1, h2⟩, h3⟩
      obtain ⟨F, hF⟩ : ∃ F : Nat → Rm.Val, ∀ j, j < len → ab < W.heap.size ∧ VAt W W.heap.size ab (ao + j * 3) (F j) ∧ (F j).lst.length ≤ 9223372036854775807 := by
        refine ⟨fun j => if hj : j < len then Classical.choose (key j hj) else Rm.v0, fun j hj => ?_⟩
        have e : (if hj : j < len then Classical.choose (key j hj) else Rm.v0) = Classical.choose (key j hj) := dif_pos hj
        show ab < W.heap.size ∧ VAt W W.heap.size ab (ao + j * 3) (if hj : j < len then Classical.choose (key j hj) else Rm.v0) ∧ (if hj : j < len then Classical.choose (key j hj) else Rm.v0).lst.length ≤ _
        rw [e]
        exact Classical.choose_spec (key j hj)
      have hb := (hF 0 (by omega)).1
      refine ⟨(List.range len).map F, .inr ⟨ab, ao, cap, by simp, hb, fun j hj => ?_⟩, by simp; omega, fun z hz => ?_⟩
      · rw [List.length_map, List.length_range] at hj
        have := (hF j hj).2.1
        simpa using this
      · obtain ⟨j, hj, rfl⟩ := List.mem_map.1 hz
        exact (hF j (by simpa using hj)).2.2
theorem open_bytesL {H : Type} {enc : TypeId × Value → H} {W : World} {base : Nat} {v : Value} {d : DataW H} {p : List MemPlace} (hval : Value.okWide Try.prog W .any base 25 v) (h : DataW.Trod enc Try.prog W 0 (fun _ => true) true 25 v d p) :
    ∃ y : List UInt8, SL encB W W.heap.size v y ∧ y.length ≤ 9223372036854775807 := by
  obtain ⟨a1, len, cap, rfl⟩ := okWide_slice Try.underlying25 hval
  obtain ⟨fuel, hf⟩ := h
  exact bytes_of_trod (v := .slice a1 len cap) hf
theorem open_valsL {H : Type} {enc : TypeId × Value → H} {W : World} {base : Nat} {v : Value} {d : DataW H} {p : List MemPlace} (hval : Value.okWide Try.prog W .any base 22 v) (h : DataW.Trod enc Try.prog W 0 (fun _ => true) true 22 v d p) :
    ∃ l : List Rm.Val, VL W W.heap.size v l ∧ l.length ≤ 9223372036854775807 ∧ ∀ z ∈ l, z.lst.length ≤ 9223372036854775807 := by
  obtain ⟨a1, len, cap, rfl⟩ := okWide_slice Try.underlying22 hval
  obtain ⟨fuel, hf⟩ := h
  exact vals_of_trod (v := .slice a1 len cap) hf
theorem open_strL {H : Type} {enc : TypeId × Value → H} {W : World} {base : Nat} {v : Value} {d : DataW H} {p : List MemPlace} (hval : Value.okWide Try.prog W .any base 9 v) (h : DataW.Trod enc Try.prog W 0 (fun _ => true) true 9 v d p) :
    ∃ fs : List UInt8, v = .string ⟨fs.toArray⟩ := by
  obtain ⟨s, rfl, _, _, _⟩ := open_string Try.underlying9 hval h
  exact ⟨s.data.toList, by simp⟩
theorem cBehind : Try.prog.cellsOf 40 = 2 := by kernel_rfl
theorem cTwo : Try.prog.cellsOf 44 = 2 := by kernel_rfl
end Go.Proofs.Ytelpgjaagkojeaa

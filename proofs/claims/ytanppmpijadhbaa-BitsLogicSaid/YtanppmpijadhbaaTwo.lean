/- Arguments of type [2]uint16, opened. No condition. -/
import Derived.Test.YtanppmpijadhbaaKit
import Derived.ChangeArms
namespace Go.Proofs.Ytanppmpijadhbaa
open Go.ChangeShapes Go.WideShapes Go.RowKit

theorem uTwo : Try.prog.underlying 47 = some (.array 2 22) := by kernel_rfl
theorem cTwo : Try.prog.cellsOf 47 = 2 := by kernel_rfl
theorem cU16 : Try.prog.cellsOf 22 = 1 := by kernel_rfl
theorem open_twoL {H : Type} {enc : TypeId × Value → H} {W : World} {base : Nat} {v : Value} {d : DataW H} {p : List MemPlace} (hval : Value.okWide Try.prog W .any base 47 v) (h : DataW.Trod enc Try.prog W 0 (fun _ => true) true 47 v d p) :
    ∃ n m : Nat, v = .agg #[.int .u16 (n : Int), .int .u16 (m : Int)] ∧ n < 65536 ∧ m < 65536 := by
  simp only [Value.okWide, uTwo] at hval
  obtain ⟨cs, rfl, _, _⟩ := hval
  obtain ⟨fuel, hf⟩ := h
  obtain ⟨l⟩ := cs
  have hf2 : DataW.trod enc Try.prog W 0 (fun _ => true) true fuel 47 l = some (d, p) := hf
  obtain ⟨ys, n, _, _, hlen, hyl, hg⟩ := DataW.trod_array uTwo hf2
  rw [cTwo] at hlen
  obtain ⟨v0, v1, rfl⟩ : ∃ v0 v1, l = [v0, v1] := by
    match l, hlen with
    | [a, b], _ => exact ⟨a, b, rfl⟩
  have hys : ∀ i, i < 2 → ∃ y, ys[i]? = some y := fun i hi => ⟨_, List.getElem?_eq_getElem (by rw [hyl]; exact hi)⟩
  obtain ⟨y0, e0⟩ := hys 0 (by omega)
  obtain ⟨y1, e1⟩ := hys 1 (by omega)
  have g0 := (hg 0 (by omega)).trans e0
  have g1 := (hg 1 (by omega)).trans e1
  rw [cU16] at g0 g1
  obtain ⟨n0, h0, _, w0⟩ := DataW.trod_int Try.underlying22 g0
  obtain ⟨n1, h1, _, w1⟩ := DataW.trod_int Try.underlying22 g1
  simp at h0 h1
  subst h0 h1
  have b0 := u16_of_wf w0
  have b1 := u16_of_wf w1
  exact ⟨n0.toNat, n1.toNat, by rw [Int.toNat_of_nonneg b0.1, Int.toNat_of_nonneg b1.1], by omega, by omega⟩
end Go.Proofs.Ytanppmpijadhbaa

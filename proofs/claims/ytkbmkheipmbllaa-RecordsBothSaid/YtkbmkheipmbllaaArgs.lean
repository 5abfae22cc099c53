/- The arguments Behind and Two, opened. No condition. -/
import Derived.Test.YtkbmkheipmbllaaKit
namespace Go.Proofs.Ytkbmkheipmbllaa
open Go.ChangeShapes Go.WideShapes Go.RowKit Go.Deep Go.ChangeMaps

theorem open_behindL {H : Type} {enc : TypeId × Value → H} {W : World} {base : Nat} {v : Value} {d : DataW H} {p : List MemPlace} (hval : Value.okWide Try.prog W .any base 40 v) (h : DataW.Trod enc Try.prog W 0 (fun _ => true) true 40 v d p) :
    ∃ (x z : Value) (l : List Rm.Val) (y : List UInt8), v = .agg #[x, z] ∧ VL W W.heap.size x l ∧ l.length ≤ 9223372036854775807 ∧ (∀ z ∈ l, z.lst.length ≤ 9223372036854775807) ∧ SL encB W W.heap.size z y ∧ y.length ≤ 9223372036854775807 := by
  obtain ⟨cs, rfl, hsz⟩ := okWide_struct Try.underlying40 hval
  rw [cBehind] at hsz
  obtain ⟨⟨l⟩⟩ : ∃ x : Array Value, x = cs := ⟨cs, rfl⟩
  rename_i heq
  subst heq
  match l, hsz with
  | [x, z], _ =>
    obtain ⟨fuel, hf⟩ := h
    obtain ⟨xs, n, _, _, _, hlen, hfl⟩ := DataW.trod_struct Try.underlying40 hf
    match xs, hlen with
    | [y0, y1], _ =>
      have f0 := hfl 0 _ rfl
      have f1 := hfl 1 _ rfl
      obtain ⟨l, h1, h2, h3⟩ := vals_of_trod (v := x) f0
      obtain ⟨y, h4, h5⟩ := bytes_of_trod (v := z) f1
      exact ⟨x, z, l, y, rfl, h1, h2, h3, h4, h5⟩
theorem open_twoL {H : Type} {enc : TypeId × Value → H} {W : World} {base : Nat} {v : Value} {d : DataW H} {p : List MemPlace} (hval : Value.okWide Try.prog W .any base 44 v) (h : DataW.Trod enc Try.prog W 0 (fun _ => true) true 44 v d p) :
    ∃ (x z : Value) (l m : List Rm.Val), v = .agg #[x, z] ∧ VL W W.heap.size x l ∧ l.length ≤ 9223372036854775807 ∧ VL W W.heap.size z m ∧ m.length ≤ 9223372036854775807 := by
  obtain ⟨cs, rfl, hsz⟩ := okWide_struct Try.underlying44 hval
  rw [cTwo] at hsz
  obtain ⟨⟨l⟩⟩ : ∃ x : Array Value, x = cs := ⟨cs, rfl⟩
  rename_i heq
  subst heq
  match l, hsz with
  | [x, z], _ =>
    obtain ⟨fuel, hf⟩ := h
    obtain ⟨xs, n, _, _, _, hlen, hfl⟩ := DataW.trod_struct Try.underlying44 hf
    match xs, hlen with
    | [y0, y1], _ =>
      have f0 := hfl 0 _ rfl
      have f1 := hfl 1 _ rfl
      obtain ⟨l, h1, h2, h3⟩ := vals_of_trod (v := x) f0
      obtain ⟨m, h4, h5, h6⟩ := vals_of_trod (v := z) f1
      exact ⟨x, z, l, m, rfl, h1, h2, h4, h5⟩
end Go.Proofs.Ytkbmkheipmbllaa

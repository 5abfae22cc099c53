/- An argument of type []Put that holds nothing: nil, or a slice with an address. No condition. -/
import Derived.Test.YtcmhhiakmgooeaaPuts
namespace Go.Proofs.Ytcmhhiakmgooeaa
open Go.ChangeShapes Go.WideShapes Go.RowKit Go.Deep

theorem puts_nil {H : Type} {enc : TypeId × Value → H} {W : World} {base : Nat} {v : Value} {d : DataW H} {p : List MemPlace} (hval : Value.okWide Try.prog W .any base 47 v) (h : DataW.Trod enc Try.prog W 0 (fun _ => true) true 47 v d p) {cs : List Pt} (hp : PL W v cs) :
    cs = [] → v = .slice none 0 0 ∨ ∃ ad c, v = .slice (some ad) 0 c := by
  rintro rfl
  obtain ⟨A, c, rfl⟩ := hp.form
  obtain ⟨fuel, hf⟩ := h
  rcases open_slice Try.underlying47 hf with ⟨hcs, _⟩ | ⟨a, len', cap', m, n, D, Pl, hcs, _⟩
  · simp [Value.cells] at hcs
    obtain ⟨rfl, rfl⟩ := hcs
    exact .inl rfl
  · simp [Value.cells] at hcs
    obtain ⟨rfl, _, _⟩ := hcs
    exact .inr ⟨_, _, rfl⟩
end Go.Proofs.Ytcmhhiakmgooeaa

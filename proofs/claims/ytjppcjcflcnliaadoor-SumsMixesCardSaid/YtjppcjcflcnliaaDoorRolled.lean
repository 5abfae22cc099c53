/- The argument Rolled, opened. No condition. -/
import Derived.Test.YtjppcjcflcnliaaDoorRow
namespace Go.Proofs.YtjppcjcflcnliaaDoor
open Go.ChangeShapes Go.WideShapes Go.RowKit Go.Deep

theorem cRolled : Tryd.prog.cellsOf 43 = 3 := by kernel_rfl
set_option maxRecDepth 100000 in
theorem open_rolledL {H : Type} {enc : TypeId × Value → H} {W : World} {base : Nat} {v : Value} {d : DataW H} {p : List MemPlace} (hval : Value.okWide Tryd.prog W .any base 43 v) (h : DataW.Trod enc Tryd.prog W 0 (fun _ => true) true 43 v d p) :
    ∃ (n : Int) (a b : Nat), v = .agg #[.int .i64 n, .int .u8 (a : Int), .int .u8 (b : Int)] ∧ a < 256 ∧ b < 256 := by
  obtain ⟨cs, rfl, hsz⟩ := okWide_struct Tryd.underlying43 hval
  rw [cRolled] at hsz
  obtain ⟨⟨l⟩⟩ : ∃ x : Array Value, x = cs := ⟨cs, rfl⟩
  rename_i heq
  subst heq
  match l, hsz with
  | [x, y, z], _ =>
    obtain ⟨fuel, hf⟩ := h
    obtain ⟨xs, n, _, _, _, hlen, hfl⟩ := DataW.trod_struct Tryd.underlying43 hf
    match xs, hlen with
    | [y0, y1, y2], _ =>
      have f0 := hfl 0 _ rfl
      have f1 := hfl 1 _ rfl
      have f2 := hfl 2 _ rfl
      obtain ⟨n, e0, _, _⟩ := DataW.trod_int Tryd.underlying3 f0
      obtain ⟨a, e1, _, wa⟩ := DataW.trod_int Tryd.underlying5 f1
      obtain ⟨b, e2, _, wb⟩ := DataW.trod_int Tryd.underlying5 f2
      have g0 : x = .int .i64 n := (List.cons.inj e0).1
      have g1 : y = .int .u8 a := (List.cons.inj e1).1
      have g2 : z = .int .u8 b := (List.cons.inj e2).1
      have ba := u8_of_wf wa
      have bb := u8_of_wf wb
      refine ⟨n, a.toNat, b.toNat, ?_, by omega, by omega⟩
      rw [g0, g1, g2, Int.toNat_of_nonneg ba.1, Int.toNat_of_nonneg bb.1]
end Go.Proofs.YtjppcjcflcnliaaDoor

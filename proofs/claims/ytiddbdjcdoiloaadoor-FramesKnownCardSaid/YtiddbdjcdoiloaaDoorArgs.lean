/- The arguments of the laws of frames, opened: a frame, a sector with changes. No condition. -/
import Derived.Test.YtiddbdjcdoiloaaDoorRow
namespace Go.Proofs.YtiddbdjcdoiloaaDoor
open Go.ChangeShapes Go.WideShapes Go.RowKit Go.Deep

theorem cFr : Tryd.prog.cellsOf 36 = 3 := by kernel_rfl
set_option maxRecDepth 100000 in
theorem fr_cells {H : Type} {enc : TypeId × Value → H} {W : World} {base fuel : Nat} {cs : List Value} {x : DataW H × List MemPlace} (hl : cs.length = 3) (hf : DataW.trod enc Tryd.prog W base (fun _ => true) true fuel 36 cs = some x) :
    ∃ (k : Int) (q : Nat) (s : ByteArray), cs = [.int .i64 k, .int .u32 (q : Int), .string s] ∧ q < 4294967296 ∧ -9223372036854775808 ≤ k ∧ k ≤ 9223372036854775807 ∧ s.size ≤ maxLen := by
  match cs, hl with
  | [a, b, c], _ =>
    obtain ⟨xs, n, _, _, _, hlen, hfl⟩ := DataW.trod_struct Tryd.underlying36 hf
    match xs, hlen with
    | [y0, y1, y2], _ =>
      have f0 := hfl 0 _ rfl
      have f1 := hfl 1 _ rfl
      have f2 := hfl 2 _ rfl
      obtain ⟨k, e0, _, wk⟩ := DataW.trod_int Tryd.underlying3 f0
      obtain ⟨q, e1, _, wq⟩ := DataW.trod_int Tryd.underlying34 f1
      obtain ⟨s, e2, _, ws⟩ := DataW.trod_string Tryd.underlying9 f2
      have g0 : a = .int .i64 k := (List.cons.inj e0).1
      have g1 : b = .int .u32 q := (List.cons.inj e1).1
      have g2 : c = .string s := (List.cons.inj e2).1
      have bq := u32_of_wf wq
      have bk := i64_of_wf wk
      refine ⟨k, q.toNat, s, ?_, by omega, bk.1, bk.2, ws⟩
      rw [g0, g1, g2, Int.toNat_of_nonneg bq.1]
set_option maxRecDepth 100000 in
theorem open_frL {H : Type} {enc : TypeId × Value → H} {W : World} {base : Nat} {v : Value} {d : DataW H} {p : List MemPlace} (hval : Value.okWide Tryd.prog W .any base 36 v) (h : DataW.Trod enc Tryd.prog W 0 (fun _ => true) true 36 v d p) :
    ∃ (k : Int) (q : Nat) (s : ByteArray), v = .agg #[.int .i64 k, .int .u32 (q : Int), .string s] ∧ q < 4294967296 ∧ -9223372036854775808 ≤ k ∧ k ≤ 9223372036854775807 ∧ s.size ≤ maxLen := by
  obtain ⟨cs, rfl, hsz⟩ := okWide_struct Tryd.underlying36 hval
  rw [cFr] at hsz
  obtain ⟨⟨l⟩⟩ : ∃ x : Array Value, x = cs := ⟨cs, rfl⟩
  rename_i heq
  subst heq
  obtain ⟨fuel, hf⟩ := h
  obtain ⟨k, q, s, e, r⟩ := fr_cells hsz hf
  have e' : l = [.int .i64 k, .int .u32 (q : Int), .string s] := e
  subst e'
  exact ⟨k, q, s, rfl, r⟩
end Go.Proofs.YtiddbdjcdoiloaaDoor

/- Arguments of type []Put, opened as lists. No condition. -/
import Derived.Test.YtcmhhiakmgooeaaPut
import Derived.ProofKit
import Derived.OpenShut
import Derived.Carry
import Derived.Deep.Slices
import Derived.ChangeArms
import Derived.ChangeMaps5
namespace Go.Proofs.Ytcmhhiakmgooeaa
open Go.ChangeShapes Go.WideShapes Go.RowKit Go.Deep

theorem cellsU8 : Try.prog.cellsOf 5 = 1 := by kernel_rfl
theorem cBool : Try.prog.cellsOf 4 = 1 := by kernel_rfl
theorem laidOut : laidOutB Try.prog = true := by kernel_rfl
theorem u8_of_wf {x : Int} (h : (Lit.int .u8 x).wf = true) : 0 ≤ x ∧ x < 256 := by
  have h1 : IntKind.u8.min = 0 := rfl
  have h2 : IntKind.u8.max = 255 := rfl
  simp only [Lit.wf, Bool.and_eq_true, decide_eq_true_eq] at h
  omega
def PutAt (w : World) (b o : Nat) (x : Pt) : Prop :=
  w.cell? ⟨b, o, none⟩ = some (.int .u8 (x.at_.toNat : Int)) ∧ w.cell? ⟨b, o + 1, none⟩ = some (.int .u8 (x.b.toNat : Int)) ∧ w.cell? ⟨b, o + 2, none⟩ = some (.bool x.f)
def putFields : Array Field := #[⟨ "At", 5, 0, false, "", "", 0⟩, ⟨ "B", 5, 1, false, "", "", 1⟩, ⟨ "Flush", 4, 2, false, "", "", 2⟩]
theorem uPut : Try.prog.underlying 49 = some (.struct putFields) := by kernel_rfl
theorem cPut : Try.prog.cellsOf 49 = 3 := by kernel_rfl
theorem put_of_trod {H : Type} {enc : TypeId × Value → H} {W : World} {fuel : Nat} {cs : List Value} {x : DataW H × List MemPlace}
    (h : DataW.trod enc Try.prog W 0 (fun _ => true) true fuel 49 cs = some x) :
    ∃ c : Pt, cs = [.int .u8 (c.at_.toNat : Int), .int .u8 (c.b.toNat : Int), .bool c.f] := by
  obtain ⟨ys, n, _, _, hlen, hyl, hf⟩ := DataW.trod_struct uPut h
  rw [cPut] at hlen
  obtain ⟨v0, v1, v2, rfl⟩ : ∃ v0 v1 v2, cs = [v0, v1, v2] := by
    match cs, hlen with
    | [a, b, c], _ => exact ⟨a, b, c, rfl⟩
  have hys : ∀ i, i < 3 → ∃ y, ys[i]? = some y := fun i hi => ⟨_, List.getElem?_eq_getElem (by rw [hyl]; exact hi)⟩
  obtain ⟨y0, e0⟩ := hys 0 (by omega)
  obtain ⟨y1, e1⟩ := hys 1 (by omega)
  obtain ⟨y2, e2⟩ := hys 2 (by omega)
  have g0 : DataW.trod enc Try.prog W 0 (fun _ => true) true n 5 ((([v0, v1, v2] : List Value).drop 0).take (Try.prog.cellsOf 5)) = some y0 := (hf 0 _ rfl).trans e0
  have g1 : DataW.trod enc Try.prog W 0 (fun _ => true) true n 5 ((([v0, v1, v2] : List Value).drop 1).take (Try.prog.cellsOf 5)) = some y1 := (hf 1 _ rfl).trans e1
  have g2 : DataW.trod enc Try.prog W 0 (fun _ => true) true n 4 ((([v0, v1, v2] : List Value).drop 2).take (Try.prog.cellsOf 4)) = some y2 := (hf 2 _ rfl).trans e2
  rw [cellsU8] at g0 g1
  rw [cBool] at g2
  obtain ⟨n0, h0, _, w0⟩ := DataW.trod_int Try.underlying5 g0
  obtain ⟨n1, h1, _, w1⟩ := DataW.trod_int Try.underlying5 g1
  obtain ⟨t2, h2, _⟩ := DataW.trod_bool Try.underlying4 g2
  simp at h0 h1 h2
  subst h0 h1 h2
  have b0 := u8_of_wf w0
  have b1 := u8_of_wf w1
  refine ⟨⟨UInt8.ofNat n0.toNat, UInt8.ofNat n1.toNat, t2⟩, ?_⟩
  simp only [List.cons.injEq, Value.int.injEq, true_and, and_true, UInt8.toNat_ofNat']
  omega
theorem open_putsL {H : Type} {enc : TypeId × Value → H} {W : World} {base : Nat} {v : Value} {d : DataW H} {p : List MemPlace} (hval : Value.okWide Try.prog W .any base 47 v) (h : DataW.Trod enc Try.prog W 0 (fun _ => true) true 47 v d p) :
    ∃ cs : List Pt, PL W v cs ∧ cs.length ≤ 9223372036854775807 := by
  obtain ⟨a1, len, cap, rfl⟩ := okWide_slice Try.underlying47 hval
  obtain ⟨fuel, hf⟩ := h
  rcases open_slice Try.underlying47 hf with ⟨hcs, _⟩ | ⟨a, len', cap', m, n, D, Pl, hcs, _, hl, hm, hmm, _, hi⟩
  · simp [Value.cells] at hcs
    obtain ⟨rfl, rfl, rfl⟩ := hcs
    exact ⟨[], .inl ⟨rfl, none, 0, rfl⟩, by simp⟩
  · simp [Value.cells] at hcs
    obtain ⟨rfl, rfl, rfl⟩ := hcs
    simp only [if_true] at hmm
    unfold maxLen at hm
    by_cases h0 : len = 0
    · subst h0
      exact ⟨[], .inl ⟨rfl, some a, cap, rfl⟩, by simp⟩
    · obtain ⟨ab, ao, spot⟩ := a
      have hspot : spot = none := by
        obtain ⟨cs', hc, _⟩ := hi 0 (by omega)
        obtain ⟨_, hlen, hat⟩ := World.cells?_some hc
        rw [cPut] at hat hlen
        have c0 := hat 0 (by omega)
        rw [List.getElem?_eq_getElem (by omega)] at c0
        simpa [Addr.add] using World.cell?_spot c0
      subst hspot
      have key : ∀ j, j < len → ∃ x : Pt, ab < W.heap.size ∧ PutAt W ab (ao + j * 3) x := by
        intro j hj
        obtain ⟨cs', hc, ht⟩ := hi j (by omega)
        obtain ⟨x, rfl⟩ := put_of_trod ht
        obtain ⟨_, _, hat⟩ := World.cells?_some hc
        rw [cPut] at hat
        have c0 := hat 0 (by omega)
        have c1 := hat 1 (by omega)
        have c2 := hat 2 (by omega)
        rw [Addr.add_lit, Addr.add_lit] at c0 c1 c2
        have hb : ab < W.heap.size := by have := World.block_lt_of_cell? _ _ c0; simpa using this
        exact ⟨x, hb, by simpa using c0, by simpa using c1, by simpa using c2⟩
      obtain ⟨F, hF⟩ : ∃ F : Nat → Pt, ∀ j, j < len → ab < W.heap.size ∧ PutAt W ab (ao + j * 3) (F j) := by
        refine ⟨fun j => if hj : j < len then Classical.choose (key j hj) else ⟨0, 0, false⟩, fun j hj => ?_⟩
        have e : (if hj : j < len then Classical.choose (key j hj) else (⟨0, 0, false⟩ : Pt)) = Classical.choose (key j hj) := dif_pos hj
        show ab < W.heap.size ∧ PutAt W ab (ao + j * 3) (if hj : j < len then Classical.choose (key j hj) else (⟨0, 0, false⟩ : Pt))
        rw [e]
        exact Classical.choose_spec (key j hj)
      refine ⟨(List.range len).map F, .inr ⟨ab, ao, cap, by simp, fun j hj => ?_⟩, by simp; omega⟩
      rw [List.length_map, List.length_range] at hj
      have := (hF j hj).2
      unfold PutAt at this
      simpa using this
end Go.Proofs.Ytcmhhiakmgooeaa

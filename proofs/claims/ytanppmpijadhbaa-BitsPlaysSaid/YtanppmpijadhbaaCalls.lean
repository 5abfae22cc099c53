/- Arguments of type []Call, opened as lists. No condition. -/
import Derived.Test.YtanppmpijadhbaaKit
import Derived.Deep.Slices
import Derived.ChangeArms
namespace Go.Proofs.Ytanppmpijadhbaa
open Go.ChangeShapes Go.WideShapes Go.RowKit Go.Deep

structure CallD where
  q : Nat
  i : Int
  k : Int
  t : Bool
def CallAt (w : World) (b o : Nat) (x : CallD) : Prop :=
  w.cell? ⟨b, o, none⟩ = some (.int .u8 (x.q : Int)) ∧ w.cell? ⟨b, o + 1, none⟩ = some (.int .i64 x.i) ∧ w.cell? ⟨b, o + 2, none⟩ = some (.int .i64 x.k) ∧ w.cell? ⟨b, o + 3, none⟩ = some (.bool x.t) ∧
    x.q < 256 ∧ (-9223372036854775808 ≤ x.i ∧ x.i ≤ 9223372036854775807) ∧ (-9223372036854775808 ≤ x.k ∧ x.k ≤ 9223372036854775807)
/-- A slice value that holds calls, in blocks below lim. -/
def CL (w : World) (lim : Nat) (v : Value) (cs : List CallD) : Prop :=
  (cs = [] ∧ ∃ A c, v = .slice A 0 c) ∨
  ∃ b off c, v = .slice (some ⟨b, off, none⟩) cs.length c ∧ b < lim ∧ ∀ j (h : j < cs.length), CallAt w b (off + j * 4) cs[j]
theorem CL.form {w : World} {lim : Nat} {v : Value} {cs : List CallD} (h : CL w lim v cs) : ∃ A c, v = .slice A cs.length c := by
  rcases h with ⟨rfl, A, c, rfl⟩ | ⟨b, off, c, rfl, _⟩
  · exact ⟨A, c, rfl⟩
  · exact ⟨_, c, rfl⟩
theorem CL.at {w : World} {lim : Nat} {A : Option Addr} {c n : Nat} {cs : List CallD} (h : CL w lim (.slice A n c) cs) (hne : 0 < cs.length) :
    ∃ b off, A = some ⟨b, off, none⟩ ∧ b < lim ∧ ∀ j (h : j < cs.length), CallAt w b (off + j * 4) cs[j] := by
  rcases h with ⟨rfl, _⟩ | ⟨b, off, c', e, hb, hc⟩
  · simp at hne
  · injection e with e1 _ _; exact ⟨b, off, e1, hb, hc⟩
theorem CallAt.below {w w' : World} {B b o : Nat} {x : CallD} (h : CallAt w b o x) (hb : Below B w w') (hB : b < B) : CallAt w' b o x := by
  obtain ⟨h0, h1, h2, h3, h4⟩ := h
  exact ⟨(hb.cell (p := ⟨b, _, none⟩) hB).trans h0, (hb.cell (p := ⟨b, _, none⟩) hB).trans h1, (hb.cell (p := ⟨b, _, none⟩) hB).trans h2, (hb.cell (p := ⟨b, _, none⟩) hB).trans h3, h4⟩
def callFields : Array Field := #[⟨ "What", 5, 0, false, "", "", 0⟩, ⟨ "I", 3, 1, false, "", "", 8⟩, ⟨ "N", 3, 2, false, "", "", 16⟩, ⟨ "V", 4, 3, false, "", "", 24⟩]
theorem uCall : Try.prog.underlying 33 = some (.struct callFields) := by kernel_rfl
theorem cCall : Try.prog.cellsOf 33 = 4 := by kernel_rfl
theorem cInt : Try.prog.cellsOf 3 = 1 := by kernel_rfl
theorem cBool : Try.prog.cellsOf 4 = 1 := by kernel_rfl
theorem call_of_trod {H : Type} {enc : TypeId × Value → H} {W : World} {fuel : Nat} {cs : List Value} {x : DataW H × List MemPlace}
    (h : DataW.trod enc Try.prog W 0 (fun _ => true) true fuel 33 cs = some x) :
    ∃ c : CallD, cs = [.int .u8 (c.q : Int), .int .i64 c.i, .int .i64 c.k, .bool c.t] ∧ c.q < 256 ∧ (-9223372036854775808 ≤ c.i ∧ c.i ≤ 9223372036854775807) ∧ (-9223372036854775808 ≤ c.k ∧ c.k ≤ 9223372036854775807) := by
  obtain ⟨ys, n, _, _, hlen, hyl, hf⟩ := DataW.trod_struct uCall h
  rw [cCall] at hlen
  obtain ⟨v0, v1, v2, v3, rfl⟩ : ∃ v0 v1 v2 v3, cs = [v0, v1, v2, v3] := by
    match cs, hlen with
    | [a, b, c, d], _ => exact ⟨a, b, c, d, rfl⟩
  have hys : ∀ i, i < 4 → ∃ y, ys[i]? = some y := fun i hi => ⟨_, List.getElem?_eq_getElem (by rw [hyl]; exact hi)⟩
  obtain ⟨y0, e0⟩ := hys 0 (by omega)
  obtain ⟨y1, e1⟩ := hys 1 (by omega)
  obtain ⟨y2, e2⟩ := hys 2 (by omega)
  obtain ⟨y3, e3⟩ := hys 3 (by omega)
  have g0 : DataW.trod enc Try.prog W 0 (fun _ => true) true n 5 ((([v0, v1, v2, v3] : List Value).drop 0).take (Try.prog.cellsOf 5)) = some y0 := (hf 0 _ rfl).trans e0
  have g1 : DataW.trod enc Try.prog W 0 (fun _ => true) true n 3 ((([v0, v1, v2, v3] : List Value).drop 1).take (Try.prog.cellsOf 3)) = some y1 := (hf 1 _ rfl).trans e1
  have g2 : DataW.trod enc Try.prog W 0 (fun _ => true) true n 3 ((([v0, v1, v2, v3] : List Value).drop 2).take (Try.prog.cellsOf 3)) = some y2 := (hf 2 _ rfl).trans e2
  have g3 : DataW.trod enc Try.prog W 0 (fun _ => true) true n 4 ((([v0, v1, v2, v3] : List Value).drop 3).take (Try.prog.cellsOf 4)) = some y3 := (hf 3 _ rfl).trans e3
  rw [cellsU8] at g0
  rw [cInt] at g1 g2
  rw [cBool] at g3
  obtain ⟨n0, h0, _, w0⟩ := DataW.trod_int Try.underlying5 g0
  obtain ⟨n1, h1, _, w1⟩ := DataW.trod_int Try.underlying3 g1
  obtain ⟨n2, h2, _, w2⟩ := DataW.trod_int Try.underlying3 g2
  obtain ⟨t3, h3, _⟩ := DataW.trod_bool Try.underlying4 g3
  simp at h0 h1 h2 h3
  subst h0 h1 h2 h3
  have b0 := u8_of_wf w0
  exact ⟨⟨n0.toNat, n1, n2, t3⟩, by simp only [List.cons.injEq, Value.int.injEq, true_and, and_true]; omega, by show n0.toNat < 256; omega, i64_of_wf w1, i64_of_wf w2⟩
theorem open_callsL {H : Type} {enc : TypeId × Value → H} {W : World} {base : Nat} {v : Value} {d : DataW H} {p : List MemPlace} (hval : Value.okWide Try.prog W .any base 24 v) (h : DataW.Trod enc Try.prog W 0 (fun _ => true) true 24 v d p) :
    ∃ cs : List CallD, CL W W.heap.size v cs ∧ cs.length ≤ 9223372036854775807 := by
  obtain ⟨a1, len, cap, rfl⟩ := okWide_slice Try.underlying24 hval
  obtain ⟨fuel, hf⟩ := h
  rcases open_slice Try.underlying24 hf with ⟨hcs, _⟩ | ⟨a, len', cap', m, n, D, Pl, hcs, _, hl, hm, hmm, _, hi⟩
  · simp [Value.cells] at hcs
    obtain ⟨rfl, rfl, rfl⟩ := hcs
    exact ⟨[], .inl ⟨rfl, none, 0, rfl⟩, by simp⟩
  · simp [Value.cells] at hcs
    obtain ⟨rfl, rfl, rfl⟩ := hcs
    simp only [if_true] at hmm
    unfold maxLen at hm
    by_cases h0 : len = 0
    · subst h0
      exact ⟨[], .inl ⟨rfl, some a, cap, rfl⟩, by simp⟩
    · obtain ⟨ab, ao, spot⟩ := a
      have hspot : spot = none := by
        obtain ⟨cs', hc, _⟩ := hi 0 (by omega)
        obtain ⟨_, hlen, hat⟩ := World.cells?_some hc
        rw [cCall] at hat hlen
        have c0 := hat 0 (by omega)
        rw [List.getElem?_eq_getElem (by omega)] at c0
        simpa [Addr.add] using World.cell?_spot c0
      subst hspot
      have key : ∀ j, j < len → ∃ x : CallD, ab < W.heap.size ∧ CallAt W ab (ao + j * 4) x := by
        intro j hj
        obtain ⟨cs', hc, ht⟩ := hi j (by omega)
        obtain ⟨x, rfl, hq, h1, h2⟩ := call_of_trod ht
        obtain ⟨_, _, hat⟩ := World.cells?_some hc
        rw [cCall] at hat
        have c0 := hat 0 (by omega)
        have c1 := hat 1 (by omega)
        have c2 := hat 2 (by omega)
        have c3 := hat 3 (by omega)
        rw [Addr.add_lit, Addr.add_lit] at c0 c1 c2 c3
        have hb : ab < W.heap.size := by have := World.block_lt_of_cell? _ _ c0; simpa using this
        exact ⟨x, hb, by simpa using c0, by simpa using c1, by simpa using c2, by simpa using c3, hq, h1, h2⟩
      obtain ⟨F, hF⟩ : ∃ F : Nat → CallD, ∀ j, j < len → ab < W.heap.size ∧ CallAt W ab (ao + j * 4) (F j) := by
        refine ⟨fun j => if hj : j < len then Classical.choose (key j hj) else ⟨0, 0, 0, false⟩, fun j hj => ?_⟩
        have e : (if hj : j < len then Classical.choose (key j hj) else (⟨0, 0, 0, false⟩ : CallD)) = Classical.choose (key j hj) := dif_pos hj
        show ab < W.heap.size ∧ CallAt W ab (ao + j * 4) (if hj : j < len then Classical.choose (key j hj) else (⟨0, 0, 0, false⟩ : CallD))
        rw [e]
        exact Classical.choose_spec (key j hj)
      have hb := (hF 0 (by omega)).1
      refine ⟨(List.range len).map F, .inr ⟨ab, ao, cap, by simp, hb, fun j hj => ?_⟩, by simp; omega⟩
      rw [List.length_map, List.length_range] at hj
      have := (hF j hj).2
      simpa using this
end Go.Proofs.Ytanppmpijadhbaa

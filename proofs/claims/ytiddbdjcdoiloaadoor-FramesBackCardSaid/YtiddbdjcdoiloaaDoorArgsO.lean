/- The argument Odd, opened: a frame by its fields, the row of changes. No condition. -/
import Derived.Test.YtiddbdjcdoiloaaDoorArgs
namespace Go.Proofs.YtiddbdjcdoiloaaDoor
open Go.ChangeShapes Go.WideShapes Go.RowKit Go.Deep

/-- A row of changes: which byte, by what. -/
def ChL (w : World) (v : Value) (l : List (UInt8 × UInt8)) : Prop :=
  (l = [] ∧ ∃ A c, v = .slice A 0 c) ∨
  ∃ q o c, v = .slice (some ⟨q, o, none⟩) l.length c ∧ ∀ i (h : i < l.length), w.cell? ⟨q, o + i * 2, none⟩ = some (.int .u8 (l[i].1.toNat : Int)) ∧ w.cell? ⟨q, o + i * 2 + 1, none⟩ = some (.int .u8 (l[i].2.toNat : Int))
section
variable {w w' : World} {v : Value} {l : List (UInt8 × UInt8)}
theorem ChL.form (h : ChL w v l) : ∃ A c, v = .slice A l.length c := by
  rcases h with ⟨rfl, A, c, rfl⟩ | ⟨q, o, c, rfl, _⟩
  · exact ⟨A, c, rfl⟩
  · exact ⟨_, c, rfl⟩
theorem ChL.at {A : Option Addr} {n c : Nat} (h : ChL w (.slice A n c) l) (hne : 0 < l.length) : ∃ q o, A = some ⟨q, o, none⟩ ∧ ∀ i (h : i < l.length), w.cell? ⟨q, o + i * 2, none⟩ = some (.int .u8 (l[i].1.toNat : Int)) ∧ w.cell? ⟨q, o + i * 2 + 1, none⟩ = some (.int .u8 (l[i].2.toNat : Int)) := by
  rcases h with ⟨rfl, _⟩ | ⟨q, o, c', e, hc⟩
  · simp at hne
  · injection e with e1 _ _; exact ⟨q, o, e1, hc⟩
theorem ChL.below (h : ChL w v l) (hb : Below w.heap.size w w') : ChL w' v l := by
  rcases h with h | ⟨q, o, c, rfl, hc⟩
  · exact .inl h
  · refine .inr ⟨q, o, c, rfl, fun i hi => ?_⟩
    obtain ⟨h1, h2⟩ := hc i hi
    exact ⟨(hb.cell (p := ⟨q, _, none⟩) (block_lt_of_cell h1)).trans h1, (hb.cell (p := ⟨q, _, none⟩) (block_lt_of_cell h2)).trans h2⟩
end
theorem cOdd : Tryd.prog.cellsOf 44 = 6 := by kernel_rfl
theorem cCh : Tryd.prog.cellsOf 97 = 2 := by kernel_rfl
set_option maxRecDepth 100000 in
theorem ch_of_trod {H : Type} {enc : TypeId × Value → H} {W : World} {fuel : Nat} {cs : List Value} {x : DataW H × List MemPlace}
    (h : DataW.trod enc Tryd.prog W 0 (fun _ => true) true fuel 97 cs = some x) :
    ∃ c : UInt8 × UInt8, cs = [.int .u8 (c.1.toNat : Int), .int .u8 (c.2.toNat : Int)] := by
  obtain ⟨ys, n, _, _, hlen, hyl, hf⟩ := DataW.trod_struct Tryd.underlying97 h
  rw [cCh] at hlen
  match cs, hlen with
  | [a, b], _ =>
    match ys, hyl with
    | [y0, y1], _ =>
      have f0 := hf 0 _ rfl
      have f1 := hf 1 _ rfl
      obtain ⟨n0, e0, _, w0⟩ := DataW.trod_int Tryd.underlying5 f0
      obtain ⟨n1, e1, _, w1⟩ := DataW.trod_int Tryd.underlying5 f1
      have g0 : a = .int .u8 n0 := (List.cons.inj e0).1
      have g1 : b = .int .u8 n1 := (List.cons.inj e1).1
      have b0 := u8_of_wf w0
      have b1 := u8_of_wf w1
      refine ⟨⟨UInt8.ofNat n0.toNat, UInt8.ofNat n1.toNat⟩, ?_⟩
      rw [g0, g1]
      simp only [List.cons.injEq, Value.int.injEq, true_and, and_true, UInt8.toNat_ofNat']
      omega
set_option maxRecDepth 100000 in
theorem chs_of_trod {H : Type} {enc : TypeId × Value → H} {W : World} {fuel : Nat} {v : Value} {x : DataW H × List MemPlace} (hf : DataW.trod enc Tryd.prog W 0 (fun _ => true) true fuel 42 [v] = some x) :
    ∃ cs : List (UInt8 × UInt8), ChL W v cs ∧ cs.length ≤ 9223372036854775807 := by
  rcases open_slice Tryd.underlying42 hf with ⟨hcs, _⟩ | ⟨a, len, cap, m, n, D, Pl, hcs, _, hl, hm, hmm, _, hi⟩
  · simp at hcs
    subst hcs
    exact ⟨[], .inl ⟨rfl, none, 0, rfl⟩, by simp⟩
  · simp at hcs
    subst hcs
    simp only [if_true] at hmm
    unfold maxLen at hm
    by_cases h0 : len = 0
    · subst h0
      exact ⟨[], .inl ⟨rfl, some a, cap, rfl⟩, by simp⟩
    · obtain ⟨ab, ao, spot⟩ := a
      have hspot : spot = none := by
        obtain ⟨cs', hc, _⟩ := hi 0 (by omega)
        obtain ⟨_, hlen, hat⟩ := World.cells?_some hc
        rw [cCh] at hat hlen
        have c0 := hat 0 (by omega)
        rw [List.getElem?_eq_getElem (by omega)] at c0
        simpa [Addr.add] using World.cell?_spot c0
      subst hspot
      have key : ∀ j, j < len → ∃ x : UInt8 × UInt8, W.cell? ⟨ab, ao + j * 2, none⟩ = some (.int .u8 (x.1.toNat : Int)) ∧ W.cell? ⟨ab, ao + j * 2 + 1, none⟩ = some (.int .u8 (x.2.toNat : Int)) := by
        intro j hj
        obtain ⟨cs', hc, ht⟩ := hi j (by omega)
        obtain ⟨x, rfl⟩ := ch_of_trod ht
        obtain ⟨_, _, hat⟩ := World.cells?_some hc
        rw [cCh] at hat
        have c0 := hat 0 (by omega)
        have c1 := hat 1 (by omega)
        rw [Addr.add_lit, Addr.add_lit] at c0 c1
        exact ⟨x, by simpa using c0, by simpa using c1⟩
      obtain ⟨F, hF⟩ : ∃ F : Nat → UInt8 × UInt8, ∀ j, j < len → W.cell? ⟨ab, ao + j * 2, none⟩ = some (.int .u8 ((F j).1.toNat : Int)) ∧ W.cell? ⟨ab, ao + j * 2 + 1, none⟩ = some (.int .u8 ((F j).2.toNat : Int)) := by
        refine ⟨fun j => if hj : j < len then Classical.choose (key j hj) else ⟨0, 0⟩, fun j hj => ?_⟩
        have e : (if hj : j < len then Classical.choose (key j hj) else ((0, 0) : UInt8 × UInt8)) = Classical.choose (key j hj) := dif_pos hj
        show W.cell? ⟨ab, ao + j * 2, none⟩ = some (.int .u8 (((if hj : j < len then Classical.choose (key j hj) else ((0, 0) : UInt8 × UInt8)).1.toNat : Nat) : Int)) ∧ W.cell? ⟨ab, ao + j * 2 + 1, none⟩ = some (.int .u8 (((if hj : j < len then Classical.choose (key j hj) else ((0, 0) : UInt8 × UInt8)).2.toNat : Nat) : Int))
        rw [e]
        exact Classical.choose_spec (key j hj)
      refine ⟨(List.range len).map F, .inr ⟨ab, ao, cap, by simp, fun j hj => ?_⟩, by simp; omega⟩
      rw [List.length_map, List.length_range] at hj
      have := hF j hj
      simpa using this
set_option maxRecDepth 100000 in
theorem open_oddL {H : Type} {enc : TypeId × Value → H} {W : World} {base : Nat} {v : Value} {d : DataW H} {p : List MemPlace} (hval : Value.okWide Tryd.prog W .any base 44 v) (h : DataW.Trod enc Tryd.prog W 0 (fun _ => true) true 44 v d p) :
    ∃ (a : Nat) (k : Int) (q : Nat) (s : ByteArray) (ch : Value) (fx : Bool) (l : List (UInt8 × UInt8)), v = .agg #[.int .u8 (a : Int), .int .i64 k, .int .u32 (q : Int), .string s, ch, .bool fx] ∧ a < 256 ∧ q < 4294967296 ∧ -9223372036854775808 ≤ k ∧ k ≤ 9223372036854775807 ∧ s.size ≤ maxLen ∧ ChL W ch l := by
  obtain ⟨cs, rfl, hsz⟩ := okWide_struct Tryd.underlying44 hval
  rw [cOdd] at hsz
  obtain ⟨⟨l⟩⟩ : ∃ x : Array Value, x = cs := ⟨cs, rfl⟩
  rename_i heq
  subst heq
  match l, hsz with
  | [v0, v1, v2, v3, v4, v5], _ =>
    obtain ⟨fuel, hf⟩ := h
    obtain ⟨xs, n, _, _, _, hlen, hfl⟩ := DataW.trod_struct Tryd.underlying44 hf
    match xs, hlen with
    | [y0, y1, y2, y3], _ =>
      have f0 := hfl 0 _ rfl
      have f1 := hfl 1 _ rfl
      have f2 := hfl 2 _ rfl
      have f3 := hfl 3 _ rfl
      obtain ⟨n0, e0, _, w0⟩ := DataW.trod_int Tryd.underlying5 f0
      have g0 : v0 = .int .u8 n0 := (List.cons.inj e0).1
      have b0 := u8_of_wf w0
      obtain ⟨k, q, s, e1, r1, r2, r3, r4⟩ := fr_cells (cs := [v1, v2, v3]) rfl f1
      obtain ⟨l, hl, _⟩ := chs_of_trod (v := v4) f2
      obtain ⟨t, e3, _⟩ := DataW.trod_bool Tryd.underlying4 f3
      have g3 : v5 = .bool t := (List.cons.inj e3).1
      simp only [List.cons.injEq, and_true] at e1
      obtain ⟨g4, g5, g6⟩ := e1
      refine ⟨n0.toNat, k, q, s, v4, t, l, ?_, by omega, r1, r2, r3, r4, hl⟩
      rw [g0, g3, g4, g5, g6, Int.toNat_of_nonneg b0.1]
end Go.Proofs.YtiddbdjcdoiloaaDoor

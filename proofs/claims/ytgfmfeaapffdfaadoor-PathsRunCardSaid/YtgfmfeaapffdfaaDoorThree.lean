/- Structs of three paths in a box, pure facts on what is moved, and what Three and lists of paths are as arguments. No condition. -/
import Derived.Test.YtgfmfeaapffdfaaDoorLawRound
import Derived.Test.YtgfmfeaapffdfaaDoorRow
namespace Go.Proofs.YtgfmfeaapffdfaaDoor
open Go.RowKit

theorem box_three {w w' : World} {a b c : Value} (h : Below (w.alloc (.cells #[a, b, c] 51)).heap.size (w.alloc (.cells #[a, b, c] 51)) w') :
    w'.cell? ⟨w.heap.size, 0, none⟩ = some a ∧ w'.cell? ⟨w.heap.size, 1, none⟩ = some b ∧ w'.cell? ⟨w.heap.size, 2, none⟩ = some c := by
  have f := fun (o : Nat) => (h.cell (p := ⟨w.heap.size, o, none⟩) (show w.heap.size < _ by simp)).trans (cell_of_row _ w.heap.size o _ _ _ (heap_alloc_new w _))
  exact ⟨f 0, f 1, f 2⟩
theorem path_none {r : Path × Nat} (p f t : Path) (h : moveR p f t = r) (he : ¬ r.2 = 0) : r.1 = [] := by
  subst h
  revert he
  unfold moveR
  split
  · split
    · split
      · intro _; rfl
      · intro h; exact (h rfl).elim
    · intro _; rfl
  · intro _; rfl
/-- What is known of a move that went well. -/
theorem move_ok {p f t : Path} (h : (moveR p f t).2 = 0) : ∃ r, p = f ++ r ∧ moveR p f t = (t ++ r, 0) ∧ checkE p = 0 ∧ checkE f = 0 ∧ checkE t = 0 ∧ checkE (t ++ r) = 0 := by
  unfold moveR at h
  by_cases hE : moveE p f t = 0
  case neg => rw [if_neg hE] at h; exact (hE h).elim
  rw [if_pos hE] at h
  by_cases hu : un p f = true
  case neg => rw [if_neg hu] at h; cases h
  rw [if_pos hu] at h
  obtain ⟨r, rfl⟩ := (un_iff _ _).1 hu
  have hlen : (f ++ r).length - f.length = r.length := by simp
  by_cases h8 : 8 < t.length + ((f ++ r).length - f.length)
  · rw [if_pos h8] at h; cases h
  have hz := moveE_zero hE
  have z1 := (checkE_zero _).1 hz.1
  have z3 := (checkE_zero _).1 hz.2.2
  refine ⟨r, rfl, ?_, hz.1, hz.2.1, hz.2.2, (checkE_zero _).2 ⟨by simp; omega, fun s hs => ?_⟩⟩
  · unfold moveR
    rw [if_pos hE, if_pos hu, if_neg h8]
    simp
  · rcases List.mem_append.1 hs with hs | hs
    · exact z3.2 s hs
    · exact z1.2 s (by simp [hs])
theorem move_is {f r t : Path} (h1 : checkE (f ++ r) = 0) (h2 : checkE f = 0) (h3 : checkE t = 0) (h4 : checkE (t ++ r) = 0) : moveR (f ++ r) f t = (t ++ r, 0) := by
  have z4 := (checkE_zero _).1 h4
  have hu : un (f ++ r) f = true := (un_iff _ _).2 ⟨r, rfl⟩
  have hE : moveE (f ++ r) f t = 0 := by unfold moveE; rw [if_pos (both_ok h1 h2), h3]
  unfold moveR
  rw [if_pos hE, if_pos hu, if_neg (by have := z4.1; simp at this ⊢; omega)]
  simp

/-! ### arguments -/
open Go.ChangeShapes Go.WideShapes Go.Deep
theorem path_of_cell {H : Type} {enc : TypeId × Value → H} {W : World} {fuel : Nat} {x : Value} {y : DataW H × List MemPlace} (hf : DataW.trod enc Tryd.prog W 0 (fun _ => true) true fuel 22 [x] = some y) :
    ∃ p : Path, SL encS W W.heap.size x p := by
  have hx : ∃ A n c, x = .slice A n c := by
    rcases open_slice1 Tryd.underlying22 cStr hf with ⟨hcs, _⟩ | ⟨a, len', cap', m, n, V, D, Pl, hcs, _⟩
    · exact ⟨_, _, _, (List.cons.inj hcs).1⟩
    · exact ⟨_, _, _, (List.cons.inj hcs).1⟩
  obtain ⟨A, n, c, rfl⟩ := hx
  exact path_of_trod (v := .slice A n c) hf ⟨_, _, _, rfl⟩
theorem cThree : Tryd.prog.cellsOf 51 = 3 := by kernel_rfl
set_option maxRecDepth 100000 in
theorem open_threeL {H : Type} {enc : TypeId × Value → H} {W : World} {base : Nat} {v : Value} {d : DataW H} {p : List MemPlace} (hval : Value.okWide Tryd.prog W .any base 51 v) (h : DataW.Trod enc Tryd.prog W 0 (fun _ => true) true 51 v d p) :
    ∃ a b c pa pb pc, v = .agg #[a, b, c] ∧ SL encS W W.heap.size a pa ∧ SL encS W W.heap.size b pb ∧ SL encS W W.heap.size c pc := by
  obtain ⟨cs, rfl, hsz⟩ := okWide_struct Tryd.underlying51 hval
  rw [cThree] at hsz
  obtain ⟨⟨l⟩⟩ : ∃ x : Array Value, x = cs := ⟨cs, rfl⟩
  rename_i heq
  subst heq
  match l, hsz with
  | [a, b, c], _ =>
    obtain ⟨fuel, hf⟩ := h
    obtain ⟨xs, n, _, _, _, hlen, hfl⟩ := DataW.trod_struct Tryd.underlying51 hf
    match xs, hlen with
    | [y0, y1, y2], _ =>
      have f0 := hfl 0 _ rfl
      have f1 := hfl 1 _ rfl
      have f2 := hfl 2 _ rfl
      obtain ⟨pa, ha⟩ := path_of_cell (y := y0) f0
      obtain ⟨pb, hb⟩ := path_of_cell (y := y1) f1
      obtain ⟨pc, hc⟩ := path_of_cell (y := y2) f2
      exact ⟨a, b, c, pa, pb, pc, rfl, ha, hb, hc⟩
set_option maxRecDepth 100000 in
theorem open_listL {H : Type} {enc : TypeId × Value → H} {W : World} {base : Nat} {v : Value} {d : DataW H} {p : List MemPlace} (hval : Value.okWide Tryd.prog W .any base 44 v) (h : DataW.Trod enc Tryd.prog W 0 (fun _ => true) true 44 v d p) :
    ∃ l : List Path, LL W W.heap.size v l := by
  obtain ⟨a1, len, cap, rfl⟩ := okWide_slice Tryd.underlying44 hval
  obtain ⟨fuel, hf⟩ := h
  rcases open_slice1 Tryd.underlying44 cPath hf with ⟨hcs, _⟩ | ⟨a, len', cap', m, n, V, D, Pl, hcs, _, hl, hm, hmm, _, hi⟩
  · simp [Value.cells] at hcs
    obtain ⟨rfl, rfl, rfl⟩ := hcs
    exact ⟨[], .inl ⟨rfl, none, 0, rfl⟩⟩
  · simp [Value.cells] at hcs
    obtain ⟨rfl, rfl, rfl⟩ := hcs
    simp only [if_true] at hmm
    by_cases h0 : len = 0
    · subst h0
      exact ⟨[], .inl ⟨rfl, some a, cap, rfl⟩⟩
    · obtain ⟨ab, ao, spot⟩ := a
      have hspot : spot = none := by
        obtain ⟨hc, _⟩ := hi 0 (by omega)
        simpa [Addr.add] using World.cell?_spot hc
      subst hspot
      have key : ∀ j, j < len → ∃ x : Path, ∃ u, W.cell? ⟨ab, ao + j, none⟩ = some u ∧ SL encS W W.heap.size u x := by
        intro j hj
        obtain ⟨hc, ht⟩ := hi j (by omega)
        obtain ⟨x, hx⟩ := path_of_cell ht
        rw [Addr.add_lit] at hc
        exact ⟨x, _, hc, hx⟩
      have hb : ab < W.heap.size := by
        obtain ⟨x, u, hs, _⟩ := key 0 (by omega)
        have := World.block_lt_of_cell? _ _ hs; simpa using this
      obtain ⟨F, hF⟩ : ∃ F : Nat → Path, ∀ j, j < len → ∃ u, W.cell? ⟨ab, ao + j, none⟩ = some u ∧ SL encS W W.heap.size u (F j) := by
        refine ⟨fun j => if hj : j < len then Classical.choose (key j hj) else [], fun j hj => ?_⟩
        simp only [dif_pos hj]
        exact Classical.choose_spec (key j hj)
      refine ⟨(List.range len).map F, .inr ⟨ab, ao, cap, by simp, hb, fun j hj => ?_⟩⟩
      rw [List.length_map, List.length_range] at hj
      obtain ⟨u, h1, h2⟩ := hF j hj
      exact ⟨u, h1, by simpa using h2⟩
end Go.Proofs.YtgfmfeaapffdfaaDoor

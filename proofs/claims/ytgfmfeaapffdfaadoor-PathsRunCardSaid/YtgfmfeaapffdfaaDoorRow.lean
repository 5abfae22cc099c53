/- What the rows of this seat have in common: arguments opened as paths, the listed variables, the witness' world. No condition. -/
import Derived.Test.YtgfmfeaapffdfaaDoorLawTexts
import Derived.ProofKit
import Derived.OpenShut
import Derived.Carry
import Derived.Deep.Slices
import Derived.ChangeArms
import Derived.LaidMore
import Derived.LaidLaws
import Derived.Lay
import Derived.Shelf.Vars
import Derived.SevenTiedAt
import Derived.Test.YtgfmfeaapffdfaaDoorCards
import Derived.Test.YtgfmfeaapffdfaaDoorTie
namespace Go.Proofs.YtgfmfeaapffdfaaDoor
open Go.ChangeShapes Go.WideShapes Go.RowKit Go.Deep

theorem own : ownKnob Tryd.prog.godebug = none := by kernel_rfl
theorem laidOut : laidOutB Tryd.prog = true := by kernel_rfl
theorem cStr : Tryd.prog.cellsOf 9 = 1 := by kernel_rfl
theorem cPath : Tryd.prog.cellsOf 22 = 1 := by kernel_rfl

/-! ### arguments -/
theorem path_of_trod {H : Type} {enc : TypeId × Value → H} {W : World} {fuel : Nat} {v : Value} {x : DataW H × List MemPlace} (hf : DataW.trod enc Tryd.prog W 0 (fun _ => true) true fuel 22 v.cells.toList = some x) (hform : ∃ A n c, v = .slice A n c) :
    ∃ p : Path, SL encS W W.heap.size v p := by
  obtain ⟨a1, len, cap, rfl⟩ := hform
  rcases open_slice1 Tryd.underlying22 cStr hf with ⟨hcs, _⟩ | ⟨a, len', cap', m, n, V, D, Pl, hcs, _, hl, hm, hmm, _, hi⟩
  · simp [Value.cells] at hcs
    obtain ⟨rfl, rfl, rfl⟩ := hcs
    exact ⟨[], SL.nil _ _⟩
  · simp [Value.cells] at hcs
    obtain ⟨rfl, rfl, rfl⟩ := hcs
    simp only [if_true] at hmm
    by_cases h0 : len = 0
    · subst h0
      exact ⟨[], .inl ⟨rfl, .inr ⟨a, cap, rfl⟩⟩⟩
    · have key : ∀ j, j < len → ∃ s : ByteArray, W.cell? (a.add j) = some (.string s) := by
        intro j hj
        obtain ⟨hc, ht⟩ := hi j (by omega)
        obtain ⟨s, hs, _, _⟩ := DataW.trod_string Tryd.underlying9 ht
        exact ⟨s, by rw [hc, (List.cons.inj hs).1]⟩
      obtain ⟨ab, ao, spot⟩ := a
      have hspot : spot = none := by
        obtain ⟨s, hs⟩ := key 0 (by omega)
        simpa [Addr.add] using World.cell?_spot hs
      subst hspot
      have key2 : ∀ j, j < len → ∃ s : ByteArray, W.cell? ⟨ab, ao + j, none⟩ = some (.string s) := fun j hj => by
        obtain ⟨s, hs⟩ := key j hj
        rw [Addr.add_lit] at hs
        exact ⟨s, hs⟩
      have hb : ab < W.heap.size := by
        obtain ⟨s, hs⟩ := key2 0 (by omega)
        have := World.block_lt_of_cell? _ _ hs; simpa using this
      obtain ⟨F, hF⟩ : ∃ F : Nat → ByteArray, ∀ j, j < len → W.cell? ⟨ab, ao + j, none⟩ = some (.string (F j)) := by
        refine ⟨fun j => if hj : j < len then Classical.choose (key2 j hj) else ⟨#[]⟩, fun j hj => ?_⟩
        simp only [dif_pos hj]
        exact Classical.choose_spec (key2 j hj)
      refine ⟨(List.range len).map F, .inr ⟨ab, ao, cap, by simp, hb, by simp; omega, fun j hj => ?_⟩⟩
      rw [List.length_map, List.length_range] at hj
      rw [hF j hj]; simp [encS]
set_option maxRecDepth 100000 in
theorem open_pathL {H : Type} {enc : TypeId × Value → H} {W : World} {base : Nat} {v : Value} {d : DataW H} {p : List MemPlace} (hval : Value.okWide Tryd.prog W .any base 22 v) (h : DataW.Trod enc Tryd.prog W 0 (fun _ => true) true 22 v d p) :
    ∃ p : Path, SL encS W W.heap.size v p := by
  obtain ⟨a1, len, cap, rfl⟩ := okWide_slice Tryd.underlying22 hval
  obtain ⟨fuel, hf⟩ := h
  exact path_of_trod hf ⟨_, _, _, rfl⟩

/-! ### the listed variables -/
def two : List (String × DataW Unit) := Rows.pathsTextsRow.laid
theorem gFirst : Tryd.prog.globalNamed "unicode/utf8.acceptRanges" = some 2 := by kernel_rfl
set_option maxRecDepth 100000 in
theorem size_of_cons {W : World} {r : List (String × DataW Unit)} (h : laidMet Tryd.prog (("unicode/utf8.acceptRanges", Rows.laid_unicode_utf8_acceptRanges) :: r) W) : 3 ≤ W.heap.size := by
  obtain ⟨ps, ⟨g', t', cs, fuel, p, q, hg', ht', hvar, hd, _, _⟩, _⟩ := h
  obtain rfl := Option.some.inj (gFirst.symm.trans hg')
  by_cases hs : 3 ≤ W.heap.size
  · exact hs
  · unfold World.var? at hvar
    rw [gFirst] at hvar
    have hn : W.heap[2]? = none := Array.getElem?_eq_none (by omega)
    simp [hn] at hvar
set_option maxRecDepth 100000 in
theorem size_of_laid {W : World} (h : laidMet Tryd.prog two W) : 3 ≤ W.heap.size := size_of_cons (r := [("unicode/utf8.first", Rows.laid_unicode_utf8_first)]) h
set_option maxRecDepth 100000 in
theorem ml_of {W : World} (h : laidMet Tryd.prog two W) (hs : W.ShapedOpen Tryd.prog) : ML W :=
  ⟨size_of_laid h, cell_of_shapedOpen_int (t := 3) (zero := #[.int .i64 0]) hs (of_decide_eq_true (by kernel_rfl)) (by kernel_rfl) rfl (by kernel_rfl) (by kernel_rfl) Tryd.underlying3⟩

/-! ### a call under the row's own conditions -/
set_option maxRecDepth 100000 in
theorem wrap_shaped {H : Type} {enc : TypeId × Value → H} {os : Os} {f : FuncId} {fn : Func} {s : ChangeSpec} {conds : List PathCond}
    (started : os.Started) (noInit : Tryd.prog.inits.idxOf? f = none) (hfn : Tryd.prog.funcs[f]? = some fn)
    (witness : ∃ (w : World) (tape : Tape) (i : Input), w.os = os ∧ (w.forCall tape i).Shaped Tryd.prog ∧ i.vars = [] ∧ Input.okWide Tryd.prog (w.forCall tape i) .any w.heap.size f i ∧
      ((s.pre enc Tryd.prog fn conds false (w.forCall tape i).memory i.args ∧ laidMetH Tryd.prog two (w.forCall tape i).memory) ∧ sizedMet enc Tryd.prog fn (OpenSpec.ofChange s) false (w.forCall tape i).memory i.args) ∧ ({} : Assume).holds Tryd.prog (lone (Frame.enter Tryd.prog f i.args .normal) [] (w.forCall tape i)))
    (contract : ∀ (W : World) (base : Nat) (args : Array Value) (ds gs : List (DataW H)) (before : List MemPlace),
      (∀ (j : Nat) t v, fn.params[j]? = some t → args[j]? = some v → Value.okWide Tryd.prog W .any base t v) →
      DataW.Whole enc Tryd.prog fn.params.toList s.vars false W args.toList ds gs before → ML W →
      Calls Tryd.prog f args W fun e W' => ∃ v, e = .returned v ∧ s.post enc Tryd.prog fn false true false false W args v W') :
    ReturnsInHanded {} Tryd.checked os f .any (fun w args => (s.pre enc Tryd.prog fn conds false w args ∧ laidMetH Tryd.prog two w) ∧ sizedMet enc Tryd.prog fn (OpenSpec.ofChange s) false w args) (s.post enc Tryd.prog fn false true false false) := by
  refine returnsInHanded_of_calls own started noInit witness ?_
  intro w tape i _ shaped _ fits met _
  obtain ⟨_, _, _, fn', hfn', _, _, _, _, hval⟩ := fits
  obtain rfl : fn' = fn := Option.some.inj (hfn'.symm.trans hfn)
  obtain ⟨⟨⟨ds, gs, before, whole, _⟩, laid⟩, _⟩ := met
  have laid1 : laidMetH Tryd.prog two (w.forCall tape i) := laid.of_heap (w' := w.forCall tape i) (by rfl)
  have laid2 : laidMet Tryd.prog two (w.forCall tape i) := by rwa [MakeChecks.laidMetH_plain _ _ _ (by kernel_rfl)] at laid1
  refine (contract (w.forCall tape i) w.heap.size i.args ds gs before hval (DataW.Whole.of_heap (w' := w.forCall tape i) (by rfl) whole) (ml_of laid2 shaped)).mono fun e W' ⟨v, he, hp⟩ => ?_
  subst he
  exact ChangeSpec.post_blind hp
end Go.Proofs.YtgfmfeaapffdfaaDoor

/- slices.SortFunc with compare, at a row of slices that hold paths. Conditions: each path in blocks of the call's own, behind the row; checked names. -/
import Derived.Test.YtgfmfeaapffdfaaDoorRSort
import Derived.Shelf.SlSortCmp.Whole1
namespace Go.Proofs.YtgfmfeaapffdfaaDoor
open Go.RowKit

theorem grown_sort {α : Type} [Inhabited α] (enc : α → Value) (W : World) (blk off m : Nat) (dk : Array α) (os : Array Obj) : W.grownBy (sortWorld enc W blk off m dk os) (some blk) := by
  refine ⟨rfl, rfl, rfl, ?_, fun k hk hne => ?_⟩
  · show W.heap.size ≤ ((W.heap.modify blk _) ++ os).size
    simp
  · show ((W.heap.modify blk _) ++ os)[k]? = W.heap[k]?
    have hb : blk ≠ k := fun e => hne (by rw [e])
    rw [Array.getElem?_append_left (by simpa using hk), Array.getElem?_modify, if_neg hb]
/-- Values and paths that belong together, as one list. -/
theorem pack {P : Value → Path → Prop} : ∀ (us : List Value) (l : List Path), us.length = l.length → (∀ i (h1 : i < us.length) (h2 : i < l.length), P us[i] l[i]) → ∃ d : List {x : Value × Path // P x.1 x.2}, d.map (fun x => x.1.1) = us ∧ d.map (fun x => x.1.2) = l
  | [], [], _, _ => ⟨[], rfl, rfl⟩
  | u :: us, [], h, _ => by simp at h
  | [], p :: l, h, _ => by simp at h
  | u :: us, p :: l, h, hp => by
    obtain ⟨d, h1, h2⟩ := pack us l (by simpa using h) (fun i a b => hp (i + 1) (by simpa using a) (by simpa using b))
    exact ⟨⟨(u, p), hp 0 (by simp) (by simp)⟩ :: d, by rw [List.map_cons, h1], by rw [List.map_cons, h2]⟩
theorem pc_ltD (a b : Path) : decide (pc a b < 0) = pl a b := by
  have h := pc_le b a
  have h2 := pc_neg a b
  cases e : pl a b with
  | true => have := (pc_lt a b).2 e; exact decide_eq_true (by omega)
  | false => have := h.2 e; exact decide_eq_false (by omega)
/-- What is said of a path that is to be sorted. -/
def Srt (W : World) (g : Nat) (u : Value) (p : Path) : Prop := OwnP W (g + 1) u p ∧ p.length ≤ 1000000 ∧ ∀ s ∈ p, nameE s = 0
theorem OwnP.kept {w w' : World} {base g : Nat} {v : Value} {p : Path} (h : OwnP w base v p) (hg : w.grownBy w' (some g)) (hb : g < base) : OwnP w' base v p := by
  refine World.ownsRow.kept h hg ?_
  cases e : v.ownBlock with
  | none => exact .inl rfl
  | some k =>
    have := World.ownsRow.lt h k e
    exact .inr (fun h => by have := Option.some.inj h; omega)
theorem eg_compare : ∀ args w, (callFunc 45 args).run Tryd.prog w = .ok (.enter 45 args) w := enters_of Tryd.func45 (by kernel_rfl) rfl
set_option maxRecDepth 100000 in
theorem sortfunc_any (W : World) (base g n cap : Nat) (us : List Value) (l : List Path) (hown : W.ownsRow base 22 1 (.slice (some ⟨g, 0, none⟩) n cap) n us) (hl : us.length = l.length) (hn : n = l.length) (hn5 : n ≤ 500) (hs : ∀ i (h1 : i < us.length) (h2 : i < l.length), Srt W g us[i] l[i]) :
    Calls Tryd.prog 52 #[.slice (some ⟨g, 0, none⟩) n cap, .func (.func 45) #[] #[]] W fun e w' => e = .returned (.tuple #[]) ∧ ∃ out : List Path, LL w' w'.heap.size (.slice (some ⟨g, 0, none⟩) n cap) out ∧ out.Perm l ∧ (∀ i j (_ : i < j) (h : j < out.length), pl out[j] out[i] = false) ∧ W.grownBy w' (some g) := by
  obtain ⟨dl, hu, hp⟩ := pack us l hl hs
  haveI : Inhabited {x : Value × Path // Srt W g x.1 x.2} := ⟨⟨(.slice none 0 0, []), OwnP.nil _ _, by simp, by simp⟩⟩
  have hgW : g < W.heap.size := (World.ownsRow.lt hown g rfl).2
  have hdn : dl.toArray.size = n := by rw [List.size_toArray, hn, ← hp, List.length_map]
  have hH : Go.Sort.Holds (fun x : {x : Value × Path // Srt W g x.1 x.2} => x.1.1) W g 0 dl.toArray := by
    intro j hj
    refine ⟨?_, World.ownsRow.frozenAt hown _⟩
    rw [Nat.zero_add, World.ownsRow.cellAt hown j (by omega), getElem!_pos dl.toArray j hj]
    simp at hj
    have hju : j < us.length := by rw [← hu, List.length_map]; exact hj
    rw [List.getElem?_eq_getElem hju]
    simp only [← hu, List.getElem_map, List.getElem_toArray]
  have hone : OneCell (fun x : {x : Value × Path // Srt W g x.1 x.2} => x.1.1) := by
    intro x
    obtain ⟨A, c, e⟩ := x.2.1.sl.form
    show x.1.1.oneCell' = true
    rw [e]; rfl
  have hswo : Go.Sort.SWO (ltOf (fun x y : {x : Value × Path // Srt W g x.1 x.2} => pc x.1.2 y.1.2)) := by
    constructor
    · intro x; show decide (pc _ _ < 0) = false; rw [pc_ltD]; exact pl_irrefl _
    · intro x y z h1 h2
      replace h1 : decide (pc x.1.2 y.1.2 < 0) = true := h1
      replace h2 : decide (pc y.1.2 z.1.2 < 0) = true := h2
      show decide (pc _ _ < 0) = true
      rw [pc_ltD] at h1 h2 ⊢; exact pl_trans _ _ _ h1 h2
    · intro x y z h1 h2
      replace h1 : decide (pc x.1.2 y.1.2 < 0) = false := h1
      replace h2 : decide (pc y.1.2 z.1.2 < 0) = false := h2
      show decide (pc _ _ < 0) = false
      rw [pc_ltD] at h1 h2 ⊢; exact pl_le_trans h2 h1
  have hcmp : CmpLays1 Tryd.prog 45 #[] (fun x : {x : Value × Path // Srt W g x.1 x.2} => x.1.1) (fun x y => pc x.1.2 y.1.2) g 0 dl.toArray.size W := by
    intro m os dk hs x y
    have hg := grown_sort (fun x : {x : Value × Path // Srt W g x.1 x.2} => x.1.1) W g 0 m dk os
    have hx := (x.2.1.kept hg (by omega)).sl
    have hy := (y.2.1.kept hg (by omega)).sl
    refine (compare_any _ _ _ x.1.2 y.1.2 hx hy x.2.2.1 y.2.2.1 x.2.2.2 y.2.2.2).mono ?_
    rintro e w' ⟨rfl, hgr⟩
    obtain ⟨p, hp⟩ := hgr.by
    exact ⟨rfl, p.n, p.os, hp⟩
  have H := Tryd.slices_SortFunc (fun x : {x : Value × Path // Srt W g x.1 x.2} => x.1.1) hone (fun x y => pc x.1.2 y.1.2) hswo 45 #[] g 0 cap dl.toArray W eg_compare hcmp hH hgW (by omega)
  rw [hdn] at H
  refine H.mono ?_
  rintro e w' ⟨rfl, d', m, os, hpi, hso, rfl⟩
  have hg := grown_sort (fun x : {x : Value × Path // Srt W g x.1 x.2} => x.1.1) W g 0 m d' os
  have hsz : d'.size = n := by rw [hpi.1, hdn]
  have hh := holds_sortWorld (fun x : {x : Value × Path // Srt W g x.1 x.2} => x.1.1) W g 0 m dl.toArray d' os hgW hH (by rw [hsz, hdn])
  have hperm : (d'.toList.map fun x => x.1.2).Perm l := by
    have h := hpi.2.2
    rw [Array.extract_eq_self_of_le (by omega), Array.extract_eq_self_of_le (by omega)] at h
    rw [← hp]
    exact h.map _
  refine ⟨rfl, d'.toList.map fun x => x.1.2, ?_, hperm, fun i j hij h => ?_, hg⟩
  · have hln : (d'.toList.map fun x => x.1.2).length = n := by simp [hsz]
    refine .inr ⟨g, 0, cap, by rw [hln], Nat.lt_of_lt_of_le hgW hg.size, fun i hi => ?_⟩
    rw [hln] at hi
    refine ⟨_, (hh i (by omega)).1, ?_⟩
    have hd : i < d'.size := by omega
    rw [getElem!_pos d' i hd]
    simp only [List.getElem_map, Array.getElem_toList]
    exact ((d'[i]).2.1.kept hg (by omega)).sl
  · simp at h
    have h1 := hso i j (Nat.zero_le _) hij (by omega)
    rw [getElem!_pos d' i (by omega), getElem!_pos d' j (by omega)] at h1
    replace h1 : decide (pc _ _ < 0) = false := h1
    rw [pc_ltD] at h1
    simp only [List.getElem_map, Array.getElem_toList]
    exact h1
end Go.Proofs.YtgfmfeaapffdfaaDoor

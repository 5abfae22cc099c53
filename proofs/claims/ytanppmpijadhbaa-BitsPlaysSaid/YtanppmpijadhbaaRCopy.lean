/- The contracts of the reference's Copy, Set, Fill and Not. Condition: the bools lie as said, at most 100000 of them. -/
import Derived.Test.YtanppmpijadhbaaRList
import Derived.Test.YtanppmpijadhbaaRLoad
namespace Go.Proofs.Ytanppmpijadhbaa
open Go.RowKit

theorem rangeT (l : List Bool) : (List.range l.length).map (boolV (listF l)) = l.map encT := by
  apply List.ext_getElem (by simp)
  intro i h1 h2
  simp only [List.getElem_map, List.getElem_range]
  unfold boolV encT
  rw [listF_at l i (by simpa using h2)]
/-- A slice of the call's own, with n bools and any room behind them. -/
def OwnC (w : World) (base g n cap : Nat) (F : Nat → Bool) : Prop := w.ownsRow base 4 1 (.slice (some ⟨g, 0, none⟩) n cap) n ((List.range n).map (boolV F))
theorem OwnC.set {w : World} {base g n cap i : Nat} {F : Nat → Bool} (h : OwnC w base g n cap F) (v : Bool) : OwnC (w.setCell ⟨g, i, none⟩ (.bool v)) base g n cap (Bm.upd F i v) := by
  have := (World.ownsRow.stored h i (.bool v)).1
  unfold OwnC
  have e : ((List.range n).map (boolV F)).set i (.bool v) = (List.range n).map (boolV (Bm.upd F i v)) := by
    apply List.ext_getElem (by simp)
    intro j h1 h2
    rw [List.getElem_set]
    simp only [List.getElem_map, List.getElem_range]
    unfold boolV Bm.upd
    by_cases e : i = j
    · rw [if_pos e, if_pos e.symm]
    · rw [if_neg e, if_neg (fun x => e x.symm)]
  rw [← e]; exact this
theorem OwnC.sl {w : World} {base g n cap : Nat} {F : Nat → Bool} (h : OwnC w base g n cap F) : SL encT w w.heap.size (.slice (some ⟨g, 0, none⟩) n cap) ((List.range n).map F) :=
  SL.of_own (n := n) (by simp) (by unfold OwnC at h; rw [List.map_map]; exact h)
theorem OwnC.cell {w : World} {base g n cap i : Nat} {F : Nat → Bool} (h : OwnC w base g n cap F) (hi : i < n) : w.cell? ⟨g, i, none⟩ = some (.bool (F i)) := by
  rw [World.ownsRow.cellAt h i (by omega)]; simp [hi, boolV]
theorem OwnC.free {w : World} {base g n cap : Nat} {F : Nat → Bool} (h : OwnC w base g n cap F) (i : Nat) : w.frozen? ⟨g, i, none⟩ = false := World.ownsRow.frozenAt h i
theorem OwnC.ge {w : World} {base g n cap : Nat} {F : Nat → Bool} (h : OwnC w base g n cap F) : base ≤ g := (World.ownsRow.lt h g rfl).1
theorem copy_end {w w1 : World} {v' : Value} {l : List Bool} {i : Nat} (hown : w1.ownsRow w.heap.size 4 1 v' i (l.map encT)) (hi : i = l.length) (hn : v' ≠ .slice none 0 0) : ∃ g cap, v' = .slice (some ⟨g, 0, none⟩) l.length cap ∧ OwnC w1 w.heap.size g l.length cap (listF l) := by
  subst hi
  rcases Go.Joins.ownsRow_forms hown with ⟨rfl, _⟩ | ⟨g, cap, rfl⟩
  · exact absurd rfl hn
  · exact ⟨g, cap, rfl, by unfold OwnC; rw [rangeT]; exact hown⟩
set_option maxRecDepth 100000 in
set_option maxHeartbeats 1000000 in
theorem rcopy_any (w : World) (v : Value) (l : List Bool) (hv : SL encT w w.heap.size v l) (hl : l.length ≤ 100000) :
    Calls Try.prog 60 #[v] w fun e w' => ∃ g cap, e = .returned (.slice (some ⟨g, 0, none⟩) l.length cap) ∧ OwnC w' w.heap.size g l.length cap (listF l) ∧ Below w.heap.size w w' := by
  obtain ⟨i0, hi, hz0, hz1, hz2⟩ := info_parts info_bool
  have hmade := World.ownsRow_made w (e := 4) (size := 1) #[] 0 (base := w.heap.size) (Nat.le_refl _) (by unfold maxLen; omega) rfl
  have HMD := Lib.hid hmade
  clear hmade
  rcases hv with ⟨rfl, A, c, rfl⟩ | ⟨b, off, c, rfl, hb, hc⟩
  · cases A with
    | none =>
      go_enter Try.func60, Try.ntmps60
      go_wp2
      go_ret
      exact ⟨w.heap.size, 0, rfl, HMD.out, (Below.refl _ _).alloc (Nat.le_refl _) _⟩
    | some a =>
      go_enter Try.func60, Try.ntmps60
      go_wp2_with (at_builtin; refine wpList_append_own _ rfl _ _ 27 rfl w.heap.size 4 i0 (.bool false) 1 1 Try.underlying27 hi hz0 hz1 hz2 rfl (by decide) _ _ _ rfl HMD.out a 0 c [] rfl rfl ?c1 ?c2 ?c3 ?c4 ?c5 ?_)
      case c1 => intro j u hj; simp at hj
      case c2 => intro u hu; simp at hu
      case c3 => unfold maxLen; omega
      case c4 => omega
      case c5 => simp
      intro v' w1 hown hgrow hnil
      have hB : Below w.heap.size w w1 := ((Below.refl _ _).alloc (Nat.le_refl _) _).grown hgrow (by simp) (fun k hk => by simp [Value.ownBlock] at hk; omega)
      have hend := copy_end (l := []) hown rfl hnil
      obtain ⟨g, cap, rfl, ho⟩ := hend
      have HO := Lib.hid ho
      have HB := Lib.hid hB
      clear hown hgrow hnil ho hB
      go_wp2_with fail
      go_ret
      exact ⟨g, cap, rfl, HO.out, HB.out⟩
  · have HC := Lib.hid hc
    clear hc
    go_enter Try.func60, Try.ntmps60
    go_wp2_with (at_builtin; refine wpList_append_own _ rfl _ _ 27 rfl w.heap.size 4 i0 (.bool false) 1 1 Try.underlying27 hi hz0 hz1 hz2 rfl (by decide) _ _ _ rfl HMD.out ⟨b, off, none⟩ l.length c (l.map encT) rfl (by simp) ?c1 ?c2 ?c3 ?c4 ?c5 ?_)
    case c1 =>
      intro j u hj
      rw [Addr.add_lit]
      rw [List.getElem?_map] at hj
      obtain ⟨x, hx, rfl⟩ := Option.map_eq_some_iff.1 hj
      obtain ⟨hjl, rfl⟩ := List.getElem?_eq_some_iff.1 hx
      rw [← HC.out j hjl]
      exact World.cell?_of_block (w := w) (Below.heap_alloc w _ b hb)
    case c2 => intro u hu; obtain ⟨x, _, rfl⟩ := List.mem_map.1 hu; rfl
    case c3 => unfold maxLen; omega
    case c4 => omega
    case c5 => simp
    intro v' w1 hown hgrow hnil
    have hB : Below w.heap.size w w1 := ((Below.refl _ _).alloc (Nat.le_refl _) _).grown hgrow (by simp) (fun k hk => by simp [Value.ownBlock] at hk; omega)
    have hend := copy_end (l := l) hown (by omega) hnil
    obtain ⟨g, cap, rfl, ho⟩ := hend
    have HO := Lib.hid ho
    have HB := Lib.hid hB
    clear hown hgrow hnil ho hB
    go_wp2_with fail
    go_ret
    exact ⟨g, cap, rfl, HO.out, HB.out⟩
end Go.Proofs.Ytanppmpijadhbaa

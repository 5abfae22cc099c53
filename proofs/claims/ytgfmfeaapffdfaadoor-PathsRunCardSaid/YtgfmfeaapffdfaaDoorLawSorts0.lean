/- The law PathsSorts returns true, given the contracts of both Sorts (SortC): a step on the way, not the law itself. Conditions: the slice holds what is said of it; MaxLen holds a number; both contracts. -/
import Derived.Test.YtgfmfeaapffdfaaDoorAsc
namespace Go.Proofs.YtgfmfeaapffdfaaDoor
open Go.RowKit

/-- What Sort hands back. -/
def SortIs (l out : List Path) (k : Nat) : Prop :=
  (500 < l.length ∧ out = [] ∧ k = 3) ∨ (l.length ≤ 500 ∧ allE l ≠ 0 ∧ out = [] ∧ k = allE l) ∨
  (l.length ≤ 500 ∧ allE l = 0 ∧ ¬ l.Nodup ∧ out = [] ∧ k = 8) ∨ (l.length ≤ 500 ∧ allE l = 0 ∧ Asc out ∧ out.Perm l ∧ k = 0)
theorem SortIs.same {l a b : List Path} {i j : Nat} (h : SortIs l a i) (g : SortIs l b j) : a = b ∧ i = j := by
  rcases h with ⟨h1, h2, h3⟩ | ⟨h1, h2, h3, h4⟩ | ⟨h1, h2, h3, h4, h5⟩ | ⟨h1, h2, h3, h4, h5⟩ <;>
    rcases g with ⟨g1, g2, g3⟩ | ⟨g1, g2, g3, g4⟩ | ⟨g1, g2, g3, g4, g5⟩ | ⟨g1, g2, g3, g4, g5⟩
  · exact ⟨h2.trans g2.symm, h3.trans g3.symm⟩
  · omega
  · omega
  · omega
  · omega
  · exact ⟨h3.trans g3.symm, h4.trans g4.symm⟩
  · exact absurd g2 h2
  · exact absurd g2 h2
  · omega
  · exact absurd h2 g2
  · exact ⟨h4.trans g4.symm, h5.trans g5.symm⟩
  · exact absurd (g4.nodup_iff.1 (asc_nodup g3)) h3
  · omega
  · exact absurd h2 g2
  · exact absurd (h4.nodup_iff.1 (asc_nodup h3)) g3
  · exact ⟨asc_unique _ _ h3 g3 fun x => (h4.mem_iff).trans (g4.mem_iff).symm, h5.trans g5.symm⟩
theorem SortIs.length {l a : List Path} {i : Nat} (h : SortIs l a i) : a.length ≤ 500 := by
  rcases h with ⟨_, h2, _⟩ | ⟨_, _, h2, _⟩ | ⟨_, _, _, h2, _⟩ | ⟨h1, _, _, h4, _⟩
  · simp [h2]
  · simp [h2]
  · simp [h2]
  · rw [h4.length_eq]; exact h1
theorem SortIs.mem {l a : List Path} {i : Nat} (h : SortIs l a i) : ∀ x ∈ a, x ∈ l := by
  rcases h with ⟨_, h2, _⟩ | ⟨_, _, h2, _⟩ | ⟨_, _, _, h2, _⟩ | ⟨h1, _, _, h4, _⟩
  · simp [h2]
  · simp [h2]
  · simp [h2]
  · exact fun x hx => h4.mem_iff.1 hx
/-- The contract of a Sort. -/
def SortC (f : FuncId) : Prop := ∀ (w : World) (v : Value) (l : List Path), LL w w.heap.size v l → l.length ≤ 1000000 → (∀ p ∈ l, Fit p) →
  Calls Tryd.prog f #[v] w fun e w' => ∃ u out k, e = .returned (.tuple #[u, .int .i64 ((k : Nat) : Int)]) ∧ LL w' w'.heap.size u out ∧ SortIs l out k ∧ Below w.heap.size w w'
theorem LL.next {w w' : World} {v : Value} {l : List Path} (h : LL w w.heap.size v l) (hb : Below w.heap.size w w') : LL w' w'.heap.size v l := (h.below hb (Nat.le_refl _)).mono hb.size
theorem far_no {l : List Path} (h : farB l = false) : l.length ≤ 510 ∧ ∀ p ∈ l, longB p = false := by
  unfold farB at h
  simp only [Bool.or_eq_false_iff, decide_eq_false_iff_not, List.any_eq_false] at h
  exact ⟨by omega, fun p hp => by simpa using h.1.2 p hp⟩

set_option maxRecDepth 100000 in
set_option maxHeartbeats 8000000 in
theorem law_sorts_of (hP : SortC 35) (hR : SortC 36) (w : World) (v : Value) (l : List Path) (hv : LL w w.heap.size v l) (hm : ML w) :
    Calls Tryd.prog 6 #[v] w fun e w' => e = .returned (.bool true) ∧ Below w.heap.size w w' := by
  have HFA := Lib.hid (far_any w v l hv)
  cases hf : farB l with
  | true =>
    have HAW := Lib.hid (awake_any w hm)
    rw [hf] at HFA
    obtain ⟨A, c, rfl⟩ := hv.form
    clear hv hm hf hP hR
    go_enter Tryd.func6, Tryd.ntmps6
    go_wp2_with fail
    refine HFA.out.mono ?_
    rintro e w' ⟨rfl, rfl⟩
    go_wp2_with fail
    refine HAW.out.mono ?_
    rintro e w' ⟨rfl, hb⟩
    go_wp2_with fail
    go_ret
    exact ⟨rfl, hb⟩
  | false =>
    rw [hf] at HFA
    have HN := Lib.hid (far_no hf)
    have HFI : Hid (∀ p ∈ l, Fit p) := fun p hp => long_fit ((far_no hf).2 p hp)
    have HV := Lib.hid hv
    have HM := Lib.hid hm
    have HP := Lib.hid hP
    have HR := Lib.hid hR
    obtain ⟨A, c, rfl⟩ := hv.form
    clear hv hm hf hP hR
    go_enter Tryd.func6, Tryd.ntmps6
    go_wp2_with fail
    refine HFA.out.mono ?_
    rintro e w' ⟨rfl, rfl⟩
    go_wp2_with fail
    refine (HP.out w _ l HV.out (by have := HN.out.1; omega) HFI.out).mono ?_
    rintro e w1 ⟨u1, o1, k1, rfl, hl1, hs1, hb1⟩
    have HL1 := Lib.hid hl1
    have HS1 := Lib.hid hs1
    have HB1 := Lib.hid hb1
    obtain ⟨D1, d1, rfl⟩ := hl1.form
    clear hl1 hs1 hb1
    go_wp2_with fail
    refine (HR.out w1 _ l (HV.out.next HB1.out) (by have := HN.out.1; omega) HFI.out).mono ?_
    rintro e w2 ⟨u2, o2, k2, rfl, hl2, hs2, hb2⟩
    obtain ⟨rfl, rfl⟩ := HS1.out.same hs2
    have HL12 := Lib.hid (HL1.out.next hb2)
    have HL2 := Lib.hid hl2
    have HB2 := Lib.hid (HB1.out.trans (hb2.mono HB1.out.size))
    obtain ⟨D2, d2, rfl⟩ := hl2.form
    clear hl2 hs2 hb2
    go_wp2_with fail
    have hsz := HS1.out.length
    have hfi : ∀ x ∈ o1, x.length ≤ 1000000 := fun x hx => (HFI.out x (HS1.out.mem x hx)).1
    have HSA := sameAll_any w2 _ _ o1 o1 HL12.out HL2.out (by omega) (by omega) hfi hfi
    clear hsz hfi
    rw [decide_eq_true rfl] at HSA
    refine HSA.mono ?_
    clear HSA
    rintro e w3 ⟨rfl, m, rfl⟩
    have HB3 := Lib.hid (HB2.out.trans ((drew_below w2 m).mono HB2.out.size))
    go_wp2_with fail
    refine (awake_any _ (HM.out.next HB3.out)).mono ?_
    rintro e w4 ⟨rfl, hb4⟩
    have HB4 := Lib.hid (HB3.out.trans (hb4.mono HB3.out.size))
    clear hb4
    go_wp2_with fail
    go_ret
    exact ⟨rfl, HB4.out⟩
end Go.Proofs.YtgfmfeaapffdfaaDoor

/- The contracts of Parent, of the program and of the reference. Conditions: the slice holds what is said of it; paths of at most 10^6 strings of at most 10^9 bytes. -/
import Derived.Test.YtgfmfeaapffdfaaDoorTop
import Derived.BigRegion
namespace Go.Proofs.YtgfmfeaapffdfaaDoor
open Go.RowKit

def parR (p : Path) : Path × ByteArray × Nat :=
  if checkE p = 0 then (if h : p.length = 0 then ([], ⟨#[]⟩, 4) else (p.take (p.length - 1), p[p.length - 1]'(by omega), 0)) else ([], ⟨#[]⟩, checkE p)
def ParE (w : World) (r : Path × ByteArray × Nat) (e : Ending) (w' : World) : Prop := ∃ v, e = .returned (.tuple #[v, .string r.2.1, .int .i64 (r.2.2 : Int)]) ∧ SL encS w' w'.heap.size v r.1 ∧ Below w.heap.size w w'

set_option maxRecDepth 100000 in
set_option maxHeartbeats 4000000 in
theorem parent_any (w : World) (v : Value) (p : Path) (hv : SL encS w w.heap.size v p) (hp : Fit p) :
    Calls Tryd.prog 28 #[v] w fun e w' => ParE w (parR p) e w' := by
  have HC := Lib.hid (check_any w _ p hv hp.2)
  by_cases hE : checkE p = 0
  case neg =>
    have hb := int_some hE
    have H : Hid (parR p = ([], ⟨#[]⟩, checkE p)) := by show parR p = _; unfold parR; rw [if_neg hE]
    obtain ⟨A, c, rfl⟩ := hv.form
    clear hE hv
    go_enter Tryd.func28, Tryd.ntmps28
    go_wp2_with fail
    refine HC.out.mono ?_
    rintro e w' ⟨rfl, rfl⟩
    go_wp2_with fail
    go_ret3
    rw [H.out]
    exact ⟨_, rfl, SL.nil _ _, Below.refl _ _⟩
  have hb := int_zero hE
  by_cases h0 : p.length = 0
  · have H : Hid (parR p = ([], ⟨#[]⟩, 4)) := by show parR p = _; unfold parR; rw [if_pos hE, dif_pos h0]
    have hz := int_zero' h0
    obtain ⟨A, c, rfl⟩ := hv.form
    rw [h0] at HC ⊢
    clear hE hv
    go_enter Tryd.func28, Tryd.ntmps28
    go_wp2_with fail
    refine HC.out.mono ?_
    rintro e w' ⟨rfl, rfl⟩
    go_wp2_with fail
    go_ret3
    rw [H.out]
    exact ⟨_, rfl, SL.nil _ _, Below.refl _ _⟩
  obtain ⟨n, hn⟩ : ∃ n, p.length = n + 1 := ⟨p.length - 1, by omega⟩
  have hlt : n < p.length := by omega
  have H : Hid (parR p = (p.take n, p[n], 0)) := by
    show parR p = _
    unfold parR
    rw [if_pos hE, dif_neg h0]
    have e : p.length - 1 = n := by omega
    simp only [e]
  have hz := int_some' h0
  obtain ⟨A, c, rfl⟩ := hv.form
  have hcap := hv.cap
  obtain ⟨b, off, rfl, hbl, hc⟩ := hv.at (by omega)
  have hcell := hc n hlt
  simp only [encS] at hcell
  have HFR : Hid (Calls Tryd.prog 41 #[.slice (some ⟨b, off, none⟩) n c] w.drew fun e w' => ∃ v', e = .returned v' ∧ OwnP w' w.drew.heap.size v' (p.take n) ∧ Below w.drew.heap.size w.drew w') :=
    fresh_any w.drew _ (p.take n) (hv.first (k := n) (by omega)) (hp.take n).1 (hp.take n).2
  have HCL : Hid (∀ V, Calls Tryd.prog 51 #[.string p[n]] V fun e w' => e = .returned (.string p[n]) ∧ Below V.heap.size V w') := fun V => clone_any V p[n] (hp.2 _ (List.getElem_mem _))
  have hlen : (p.take n).length = n := by simp; omega
  have HLEN := Lib.hid hlen
  have hsz : b < w.heap.size := hbl
  have hnb : n ≤ 1000000 := by have := hp.1; omega
  have i1 : (n : Int) < (p.length : Int) := by omega
  have i2 : (p.length : Int) - 1 = (n : Int) := by omega
  rw [hn] at HC ⊢
  clear hE hv hc hlen hbl
  go_enter Tryd.func28, Tryd.ntmps28
  go_wp2_with fail
  refine HC.out.mono ?_
  rintro e w' ⟨rfl, rfl⟩
  go_wp2_with fail
  go_region_with (first
    | (go_at_call 41; refine HFR.out.mono ?_; rintro e w2 ⟨v', rfl, hown, hb2⟩; have hcell2 : w2.cell? ⟨b, off + n, none⟩ = some (.string p[n]) := (hb2.cell (p := ⟨b, off + n, none⟩) hsz).trans hcell)
    | (go_at_call 51; refine (HCL.out _).mono ?_; rintro e w3 ⟨rfl, hb3⟩))
  all_goals
    have HO := Lib.hid (hown.sl.next hb3)
    have HB := Lib.hid (((Below.refl w.heap.size w).drew.trans hb2).trans (hb3.mono hb2.size))
    clear hown hb2 hb3 hcell2 HFR HCL
    go_wp2_with fail
    go_ret3
    rw [H.out]
    exact ⟨_, rfl, HO.out, HB.out⟩

set_option maxRecDepth 100000 in
set_option maxHeartbeats 4000000 in
theorem rparent_any (w : World) (v : Value) (p : Path) (hv : SL encS w w.heap.size v p) (hp : Fit p) :
    Calls Tryd.prog 29 #[v] w fun e w' => ParE w (parR p) e w' := by
  have HC := Lib.hid (rcheck_any w _ p hv hp.2)
  by_cases hE : checkE p = 0
  case neg =>
    have hb := int_some hE
    have hb' := int_some' hE
    have H : Hid (parR p = ([], ⟨#[]⟩, checkE p)) := by show parR p = _; unfold parR; rw [if_neg hE]
    have hpl := hp.1
    obtain ⟨A, c, rfl⟩ := hv.form
    clear hE hv
    go_enter Tryd.func29, Tryd.ntmps29
    go_wp2_with fail
    refine HC.out.mono ?_
    rintro e w' ⟨rfl, rfl⟩
    go_wp2_with fail
    go_ret3
    rw [H.out]
    exact ⟨_, rfl, SL.nil _ _, Below.refl _ _⟩
  have hb := int_zero hE
  have hb' := int_zero' hE
  by_cases h0 : p.length = 0
  · have H : Hid (parR p = ([], ⟨#[]⟩, 4)) := by show parR p = _; unfold parR; rw [if_pos hE, dif_pos h0]
    obtain ⟨A, c, rfl⟩ := hv.form
    rw [h0] at HC ⊢
    clear hE hv
    go_enter Tryd.func29, Tryd.ntmps29
    go_wp2_with fail
    refine HC.out.mono ?_
    rintro e w' ⟨rfl, rfl⟩
    go_wp2_with fail
    go_ret3
    rw [H.out]
    exact ⟨_, rfl, SL.nil _ _, Below.refl _ _⟩
  obtain ⟨n, hn⟩ : ∃ n, p.length = n + 1 := ⟨p.length - 1, by omega⟩
  have hlt : n < p.length := by omega
  have H : Hid (parR p = (p.take n, p[n], 0)) := by
    show parR p = _
    unfold parR
    rw [if_pos hE, dif_neg h0]
    have e : p.length - 1 = n := by omega
    simp only [e]
  obtain ⟨A, c, rfl⟩ := hv.form
  have hcap := hv.cap
  obtain ⟨b, off, rfl, hbl, hc⟩ := hv.at (by omega)
  have hcell := hc n hlt
  simp only [encS] at hcell
  have hlen : (p.take n).length = n := by simp; omega
  have HLEN := Lib.hid hlen
  have hsz : b < w.heap.size := hbl
  have hnb : n ≤ 1000000 := by have := hp.1; omega
  have hnc : n ≤ c := by omega
  have hn1 : (n : Int) < (n : Int) + 1 := by omega
  have hB1 : Below w.heap.size w (w.alloc (.cells #[] 9)).drew := ((Below.refl w.heap.size w).alloc (Nat.le_refl _) _).drew
  have hcell1 : (w.alloc (.cells #[] 9)).cell? ⟨b, off + n, none⟩ = some (.string p[n]) := (hB1.cell (p := ⟨b, off + n, none⟩) hsz).trans hcell
  have HN : Hid ((w.alloc (.cells #[] 9)).drew.ownsRow w.heap.size 9 1 (.slice (some ⟨w.heap.size, 0, none⟩) 0 0) 0 []) := own_new w 9
  have HS : Hid (SL encS (w.alloc (.cells #[] 9)).drew w.heap.size (.slice (some ⟨b, off, none⟩) n c) (p.take n)) := (hv.first (k := n) (by omega)).below hB1 (Nat.le_refl _)
  have HB1 := Lib.hid hB1
  rw [hn] at HC ⊢
  clear hE hv hc hlen hbl hB1
  go_enter Tryd.func29, Tryd.ntmps29
  go_wp2_with fail
  refine HC.out.mono ?_
  rintro e w' ⟨rfl, rfl⟩
  go_wp2_with fail
  go_region_law (rw [if_pos (by simp [Region.wanted])]; refine wp_append_sl _ _ rfl w.heap.size w.heap.size _ 0 [] rfl HN.out _ (p.take n) rfl HS.out (by have := HLEN.out; omega) (by simp) ?_; intro v' w2 hown hgrow; have hcell2 : w2.cell? ⟨b, off + n, none⟩ = some (.string p[n]) := by have hB2 : Below w.heap.size w w2 := HB1.out.grown hgrow (by simp) (fun r e => (HN.out.lt r e).1); exact (hB2.cell (p := ⟨b, off + n, none⟩) hsz).trans hcell)
  all_goals
    rw [List.nil_append, Nat.zero_add] at hown
    have hS := SL.of_own (l := p.take n) rfl hown
    have HO := Lib.hid hS
    have HB : Hid (Below w.heap.size w w2) := HB1.out.grown hgrow (by simp) (fun r e => (HN.out.lt r e).1)
    clear hS hown hgrow hcell2 HB1 HN HS
    go_wp2_with fail
    go_ret3
    rw [H.out]
    exact ⟨_, rfl, HO.out, HB.out⟩
end Go.Proofs.YtgfmfeaapffdfaaDoor

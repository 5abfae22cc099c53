/- The contract of partsOf. Condition: a pointer to a sector. -/
import Derived.Test.YtiddbdjcdoiloaaDoorNumIn
import Derived.Deep.RegionHeld
namespace Go.Proofs.YtiddbdjcdoiloaaDoor
open Go.RowKit Fm

/-- What partsOf hands back. -/
def partC (b p0 p1 p2 p3 p4 p5 : Nat) : Array Value :=
  #[.func (.func 84) #[] #[.pointer (some ⟨p0, 0, none⟩)], .func (.func 85) #[] #[.pointer (some ⟨p0, 0, none⟩)],
    .func (.func 84) #[] #[.pointer (some ⟨p1, 0, none⟩)], .func (.func 85) #[] #[.pointer (some ⟨p1, 0, none⟩)],
    .func (.func 84) #[] #[.pointer (some ⟨p2, 0, none⟩)], .func (.func 85) #[] #[.pointer (some ⟨p2, 0, none⟩)],
    .func (.func 84) #[] #[.pointer (some ⟨p3, 0, none⟩)], .func (.func 85) #[] #[.pointer (some ⟨p3, 0, none⟩)],
    .func (.func 84) #[] #[.pointer (some ⟨p4, 0, none⟩)], .func (.func 85) #[] #[.pointer (some ⟨p4, 0, none⟩)],
    .func (.func 84) #[] #[.pointer (some ⟨p5, 0, none⟩)], .func (.func 85) #[] #[.pointer (some ⟨p5, 0, none⟩)],
    .slice (some ⟨b, 8, none⟩) 112 112, .slice (some ⟨b, 0, none⟩) 124 124]
theorem partC_one (b p0 p1 p2 p3 p4 p5 : Nat) : (partC b p0 p1 p2 p3 p4 p5).all (·.oneCell') = true := by simp [partC, Value.oneCell']
def zeroP : Array Value := #[.nilFunc, .nilFunc, .nilFunc, .nilFunc, .nilFunc, .nilFunc, .nilFunc, .nilFunc, .nilFunc, .nilFunc, .nilFunc, .nilFunc, .slice none 0 0, .slice none 0 0]
theorem iParts : (Tryd.prog.info? 92).map (·.size) = some 14 := by kernel_rfl
theorem uArr : Tryd.prog.underlying 38 = some (.array 128 5) := by kernel_rfl
theorem below_undrew {B : Nat} {w w' : World} (h : Below B w.drew w') : Below B w w' := ⟨h.os, h.tape, h.output, h.size, h.block⟩
/-- The cells of the numbers of a sector at b. -/
structure PAt (w : World) (b p0 p1 p2 p3 p4 p5 : Nat) : Prop where
  c0 : Blk w p0 #[.slice (some ⟨b, 0, none⟩) 1 1] 22
  c1 : Blk w p1 #[.slice (some ⟨b, 1, none⟩) 1 1] 22
  c2 : Blk w p2 #[.slice (some ⟨b, 2, none⟩) 1 1] 22
  c3 : Blk w p3 #[.slice (some ⟨b, 4, none⟩) 4 4] 22
  c4 : Blk w p4 #[.slice (some ⟨b, 120, none⟩) 4 4] 22
  c5 : Blk w p5 #[.slice (some ⟨b, 124, none⟩) 4 4] 22
set_option maxRecDepth 100000 in
set_option maxHeartbeats 4000000 in
theorem partsOf_any (w : World) (b : Nat) :
    Calls Tryd.prog 50 #[.pointer (some ⟨b, 0, none⟩)] w fun e w' => ∃ p0 p1 p2 p3 p4 p5, e = .returned (.agg (partC b p0 p1 p2 p3 p4 p5)) ∧ PAt w' b p0 p1 p2 p3 p4 p5 ∧ Below w.heap.size w w' := by
  have hu := uArr
  go_enter Tryd.func50, Tryd.ntmps50
  go_wp2_with fail
  obtain ⟨w0, hw0⟩ : ∃ w0, w0 = w.alloc (.cells #[.nilFunc, .nilFunc, .nilFunc, .nilFunc, .nilFunc, .nilFunc, .nilFunc, .nilFunc, .nilFunc, .nilFunc, .nilFunc, .nilFunc, .slice none 0 0, .slice none 0 0] 92) := ⟨_, rfl⟩
  have HQ : Hid (Blk w0 w.heap.size zeroP 92) := by rw [hw0]; exact Blk.new w _ _
  have HB0 : Hid (Below w.heap.size w w0) := by rw [hw0]; exact (Below.refl _ _).alloc (Nat.le_refl _) _
  obtain ⟨q, hq⟩ : ∃ q, q = w.heap.size := ⟨_, rfl⟩
  rw [← hw0, ← hq]
  rw [← hq] at HQ
  have HQE := Lib.hid hq
  clear hw0 hq
  refine wp_region_held_drew (S := fun _ => True) (by kernel_rfl) trivial (fun hHeld => ?_)
  refine wpAnyH_take (i := 0) (v := ?_) rfl (by kernel_rfl) (by kernel_rfl) (by kernel_rfl) (fun _ _ _ h => h) (Or.inl ⟨by rfl, ?_⟩) (by assumption) ?_
  rotate_left
  · intro w' hSw
    go_simp
    try with_reducible rfl
  try simp only [Act.put]
  try simp only [List.setIfInBounds_toArray]
  try simp only [List.set_cons_succ]
  try simp only [List.set_cons_zero]
  refine wpAnyH_take (i := 1) (v := ?_) rfl (by kernel_rfl) (by kernel_rfl) (by kernel_rfl) (fun _ _ _ h => h) (Or.inl ⟨by rfl, ?_⟩) (by assumption) ?_
  rotate_left
  · intro w' hSw
    go_simp
    try with_reducible rfl
  try simp only [Act.put]
  try simp only [List.setIfInBounds_toArray]
  try simp only [List.set_cons_succ]
  try simp only [List.set_cons_zero]
  refine wpAnyH_take (i := 2) (v := ?_) rfl (by kernel_rfl) (by kernel_rfl) (by kernel_rfl) (fun _ _ _ h => h) (Or.inl ⟨by rfl, ?_⟩) (by assumption) ?_
  rotate_left
  · intro w' hSw
    go_simp
    try with_reducible rfl
  try simp only [Act.put]
  try simp only [List.setIfInBounds_toArray]
  try simp only [List.set_cons_succ]
  try simp only [List.set_cons_zero]
  refine wpAnyH_take (i := 4) (v := ?_) rfl (by kernel_rfl) (by kernel_rfl) (by kernel_rfl) (fun _ _ _ h => h) (Or.inl ⟨by rfl, ?_⟩) (by assumption) ?_
  rotate_left
  · intro w' hSw
    go_simp
    try with_reducible rfl
  try simp only [Act.put]
  try simp only [List.setIfInBounds_toArray]
  try simp only [List.set_cons_succ]
  try simp only [List.set_cons_zero]
  refine wpAnyH_take (i := 5) (v := ?_) rfl (by kernel_rfl) (by kernel_rfl) (by kernel_rfl) (fun _ _ _ h => h) (Or.inl ⟨by rfl, ?_⟩) (by assumption) ?_
  rotate_left
  · intro w' hSw
    go_simp
    try with_reducible rfl
  try simp only [Act.put]
  try simp only [List.setIfInBounds_toArray]
  try simp only [List.set_cons_succ]
  try simp only [List.set_cons_zero]
  refine wpAnyH_take (i := 6) (v := ?_) rfl (by kernel_rfl) (by kernel_rfl) (by kernel_rfl) (fun _ _ _ h => h) (Or.inl ⟨by rfl, ?_⟩) (by assumption) ?_
  rotate_left
  · intro w' hSw
    go_simp
    try with_reducible rfl
  try simp only [Act.put]
  try simp only [List.setIfInBounds_toArray]
  try simp only [List.set_cons_succ]
  try simp only [List.set_cons_zero]
  refine wpAnyH_take (i := 8) (v := ?_) rfl (by kernel_rfl) (by kernel_rfl) (by kernel_rfl) (fun _ _ _ h => h) (Or.inl ⟨by rfl, ?_⟩) (by assumption) ?_
  rotate_left
  · intro w' hSw
    go_simp
    try with_reducible rfl
  try simp only [Act.put]
  try simp only [List.setIfInBounds_toArray]
  try simp only [List.set_cons_succ]
  try simp only [List.set_cons_zero]
  refine wpAnyH_take (i := 9) (v := ?_) rfl (by kernel_rfl) (by kernel_rfl) (by kernel_rfl) (fun _ _ _ h => h) (Or.inl ⟨by rfl, ?_⟩) (by assumption) ?_
  rotate_left
  · intro w' hSw
    go_simp
    try with_reducible rfl
  try simp only [Act.put]
  try simp only [List.setIfInBounds_toArray]
  try simp only [List.set_cons_succ]
  try simp only [List.set_cons_zero]
  refine wpAnyH_take (i := 10) (v := ?_) rfl (by kernel_rfl) (by kernel_rfl) (by kernel_rfl) (fun _ _ _ h => h) (Or.inl ⟨by rfl, ?_⟩) (by assumption) ?_
  rotate_left
  · intro w' hSw
    go_simp
    try with_reducible rfl
  try simp only [Act.put]
  try simp only [List.setIfInBounds_toArray]
  try simp only [List.set_cons_succ]
  try simp only [List.set_cons_zero]
  refine wpAnyH_take (i := 12) (v := ?_) rfl (by kernel_rfl) (by kernel_rfl) (by kernel_rfl) (fun _ _ _ h => h) (Or.inl ⟨by rfl, ?_⟩) (by assumption) ?_
  rotate_left
  · intro w' hSw
    go_simp
    try with_reducible rfl
  try simp only [Act.put]
  try simp only [List.setIfInBounds_toArray]
  try simp only [List.set_cons_succ]
  try simp only [List.set_cons_zero]
  refine wpAnyH_take (i := 13) (v := ?_) rfl (by kernel_rfl) (by kernel_rfl) (by kernel_rfl) (fun _ _ _ h => h) (Or.inl ⟨by rfl, ?_⟩) (by assumption) ?_
  rotate_left
  · intro w' hSw
    go_simp
    try with_reducible rfl
  try simp only [Act.put]
  try simp only [List.setIfInBounds_toArray]
  try simp only [List.set_cons_succ]
  try simp only [List.set_cons_zero]
  refine wpAnyH_take (i := 14) (v := ?_) rfl (by kernel_rfl) (by kernel_rfl) (by kernel_rfl) (fun _ _ _ h => h) (Or.inl ⟨by rfl, ?_⟩) (by assumption) ?_
  rotate_left
  · intro w' hSw
    go_simp
    try with_reducible rfl
  try simp only [Act.put]
  try simp only [List.setIfInBounds_toArray]
  try simp only [List.set_cons_succ]
  try simp only [List.set_cons_zero]
  refine wpAnyH_take (i := 16) (v := ?_) rfl (by kernel_rfl) (by kernel_rfl) (by kernel_rfl) (fun _ _ _ h => h) (Or.inl ⟨by rfl, ?_⟩) (by assumption) ?_
  rotate_left
  · intro w' hSw
    go_simp
    try with_reducible rfl
  try simp only [Act.put]
  try simp only [List.setIfInBounds_toArray]
  try simp only [List.set_cons_succ]
  try simp only [List.set_cons_zero]
  refine wpAnyH_take (i := 17) (v := ?_) rfl (by kernel_rfl) (by kernel_rfl) (by kernel_rfl) (fun _ _ _ h => h) (Or.inl ⟨by rfl, ?_⟩) (by assumption) ?_
  rotate_left
  · intro w' hSw
    go_simp
    try with_reducible rfl
  try simp only [Act.put]
  try simp only [List.setIfInBounds_toArray]
  try simp only [List.set_cons_succ]
  try simp only [List.set_cons_zero]
  refine wpAnyH_take (i := 18) (v := ?_) rfl (by kernel_rfl) (by kernel_rfl) (by kernel_rfl) (fun _ _ _ h => h) (Or.inl ⟨by rfl, ?_⟩) (by assumption) ?_
  rotate_left
  · intro w' hSw
    go_simp
    try with_reducible rfl
  try simp only [Act.put]
  try simp only [List.setIfInBounds_toArray]
  try simp only [List.set_cons_succ]
  try simp only [List.set_cons_zero]
  refine wpAnyH_take (i := 19) (v := ?_) rfl (by kernel_rfl) (by kernel_rfl) (by kernel_rfl) (fun _ _ _ h => h) (Or.inl ⟨by rfl, ?_⟩) (by assumption) ?_
  rotate_left
  · intro w' hSw
    go_simp
    try with_reducible rfl
  try simp only [Act.put]
  try simp only [List.setIfInBounds_toArray]
  try simp only [List.set_cons_succ]
  try simp only [List.set_cons_zero]
  refine wpAnyH_take (i := 20) (v := ?_) rfl (by kernel_rfl) (by kernel_rfl) (by kernel_rfl) (fun _ _ _ h => h) (Or.inl ⟨by rfl, ?_⟩) (by assumption) ?_
  rotate_left
  · intro w' hSw
    go_simp
    try with_reducible rfl
  try simp only [Act.put]
  try simp only [List.setIfInBounds_toArray]
  try simp only [List.set_cons_succ]
  try simp only [List.set_cons_zero]
  refine wpAnyH_take (i := 21) (v := ?_) rfl (by kernel_rfl) (by kernel_rfl) (by kernel_rfl) (fun _ _ _ h => h) (Or.inl ⟨by rfl, ?_⟩) (by assumption) ?_
  rotate_left
  · intro w' hSw
    go_simp
    try with_reducible rfl
  try simp only [Act.put]
  try simp only [List.setIfInBounds_toArray]
  try simp only [List.set_cons_succ]
  try simp only [List.set_cons_zero]
  refine wpAnyH_take (i := 23) (v := ?_) rfl (by kernel_rfl) (by kernel_rfl) (by kernel_rfl) (fun _ _ _ h => h) (Or.inl ⟨by rfl, ?_⟩) (by assumption) ?_
  rotate_left
  · intro w' hSw
    go_simp
    try with_reducible rfl
  try simp only [Act.put]
  try simp only [List.setIfInBounds_toArray]
  try simp only [List.set_cons_succ]
  try simp only [List.set_cons_zero]
  refine wpAnyH_take (i := 24) (v := ?_) rfl (by kernel_rfl) (by kernel_rfl) (by kernel_rfl) (fun _ _ _ h => h) (Or.inl ⟨by rfl, ?_⟩) (by assumption) ?_
  rotate_left
  · intro w' hSw
    go_simp
    try with_reducible rfl
  try simp only [Act.put]
  try simp only [List.setIfInBounds_toArray]
  try simp only [List.set_cons_succ]
  try simp only [List.set_cons_zero]
  refine wpAnyH_take (i := 25) (v := ?_) rfl (by kernel_rfl) (by kernel_rfl) (by kernel_rfl) (fun _ _ _ h => h) (Or.inl ⟨by rfl, ?_⟩) (by assumption) ?_
  rotate_left
  · intro w' hSw
    go_simp
    try with_reducible rfl
  try simp only [Act.put]
  try simp only [List.setIfInBounds_toArray]
  try simp only [List.set_cons_succ]
  try simp only [List.set_cons_zero]
  refine wpAnyH_take (i := 26) (v := ?_) rfl (by kernel_rfl) (by kernel_rfl) (by kernel_rfl) (fun _ _ _ h => h) (Or.inl ⟨by rfl, ?_⟩) (by assumption) ?_
  rotate_left
  · intro w' hSw
    go_simp
    try with_reducible rfl
  try simp only [Act.put]
  try simp only [List.setIfInBounds_toArray]
  try simp only [List.set_cons_succ]
  try simp only [List.set_cons_zero]
  refine wpAnyH_take (i := 27) (v := ?_) rfl (by kernel_rfl) (by kernel_rfl) (by kernel_rfl) (fun _ _ _ h => h) (Or.inl ⟨by rfl, ?_⟩) (by assumption) ?_
  rotate_left
  · intro w' hSw
    go_simp
    try with_reducible rfl
  try simp only [Act.put]
  try simp only [List.setIfInBounds_toArray]
  try simp only [List.set_cons_succ]
  try simp only [List.set_cons_zero]
  refine wpAnyH_take (i := 28) (v := ?_) rfl (by kernel_rfl) (by kernel_rfl) (by kernel_rfl) (fun _ _ _ h => h) (Or.inl ⟨by rfl, ?_⟩) (by assumption) ?_
  rotate_left
  · intro w' hSw
    go_simp
    try with_reducible rfl
  try simp only [Act.put]
  try simp only [List.setIfInBounds_toArray]
  try simp only [List.set_cons_succ]
  try simp only [List.set_cons_zero]
  refine wpAnyH_ready (rs := [3]) (by kernel_rfl) (by simp) ?_
  refine AllReadyH.cons rfl (fun K hK => ?_) AllReadyH.nil
  go_simp
  refine (numberIn_any _ (some ⟨b, 0, none⟩) 1 1).mono ?_
  rintro e w1 ⟨p0, rfl, hc0, hp0, hb0⟩
  have B1 : Hid (Below w0.heap.size w0 w1) := below_undrew (show Below w0.heap.size w0.drew w1 from hb0)
  have N0 : Hid (Blk w1 p0 #[.slice (some ⟨b, 0, none⟩) 1 1] 22) := hc0
  clear hc0 hp0 hb0
  refine hK.out _ _ trivial (fun hHeld => ?_)
  clear hK K
  try simp only [Act.put]
  try simp only [List.setIfInBounds_toArray]
  try simp only [List.set_cons_succ]
  try simp only [List.set_cons_zero]
  refine wpAnyH_ready (rs := [7]) (by kernel_rfl) (by simp) ?_
  refine AllReadyH.cons rfl (fun K hK => ?_) AllReadyH.nil
  go_simp
  refine (numberIn_any _ (some ⟨b, 1, none⟩) 1 1).mono ?_
  rintro e w2 ⟨p1, rfl, hc1, hp1, hb1⟩
  have B2 : Hid (Below w0.heap.size w0 w2) := B1.out.trans (hb1.mono B1.out.size)
  have N1 : Hid (Blk w2 p1 #[.slice (some ⟨b, 1, none⟩) 1 1] 22) := hc1
  have N0 := Lib.hid (N0.out.below hb1 N0.out.lt)
  clear hc1 hp1 hb1
  refine hK.out _ _ trivial (fun hHeld => ?_)
  clear hK K
  try simp only [Act.put]
  try simp only [List.setIfInBounds_toArray]
  try simp only [List.set_cons_succ]
  try simp only [List.set_cons_zero]
  refine wpAnyH_ready (rs := [11]) (by kernel_rfl) (by simp) ?_
  refine AllReadyH.cons rfl (fun K hK => ?_) AllReadyH.nil
  go_simp
  refine (numberIn_any _ (some ⟨b, 2, none⟩) 1 1).mono ?_
  rintro e w3 ⟨p2, rfl, hc2, hp2, hb2⟩
  have B3 : Hid (Below w0.heap.size w0 w3) := B2.out.trans (hb2.mono B2.out.size)
  have N2 : Hid (Blk w3 p2 #[.slice (some ⟨b, 2, none⟩) 1 1] 22) := hc2
  have N0 := Lib.hid (N0.out.below hb2 N0.out.lt)
  have N1 := Lib.hid (N1.out.below hb2 N1.out.lt)
  clear hc2 hp2 hb2
  refine hK.out _ _ trivial (fun hHeld => ?_)
  clear hK K
  try simp only [Act.put]
  try simp only [List.setIfInBounds_toArray]
  try simp only [List.set_cons_succ]
  try simp only [List.set_cons_zero]
  refine wpAnyH_ready (rs := [15]) (by kernel_rfl) (by simp) ?_
  refine AllReadyH.cons rfl (fun K hK => ?_) AllReadyH.nil
  go_simp
  refine (numberIn_any _ (some ⟨b, 4, none⟩) 4 4).mono ?_
  rintro e w4 ⟨p3, rfl, hc3, hp3, hb3⟩
  have B4 : Hid (Below w0.heap.size w0 w4) := B3.out.trans (hb3.mono B3.out.size)
  have N3 : Hid (Blk w4 p3 #[.slice (some ⟨b, 4, none⟩) 4 4] 22) := hc3
  have N0 := Lib.hid (N0.out.below hb3 N0.out.lt)
  have N1 := Lib.hid (N1.out.below hb3 N1.out.lt)
  have N2 := Lib.hid (N2.out.below hb3 N2.out.lt)
  clear hc3 hp3 hb3
  refine hK.out _ _ trivial (fun hHeld => ?_)
  clear hK K
  try simp only [Act.put]
  try simp only [List.setIfInBounds_toArray]
  try simp only [List.set_cons_succ]
  try simp only [List.set_cons_zero]
  refine wpAnyH_ready (rs := [22]) (by kernel_rfl) (by simp) ?_
  refine AllReadyH.cons rfl (fun K hK => ?_) AllReadyH.nil
  go_simp
  refine (numberIn_any _ (some ⟨b, 120, none⟩) 4 4).mono ?_
  rintro e w5 ⟨p4, rfl, hc4, hp4, hb4⟩
  have B5 : Hid (Below w0.heap.size w0 w5) := B4.out.trans (hb4.mono B4.out.size)
  have N4 : Hid (Blk w5 p4 #[.slice (some ⟨b, 120, none⟩) 4 4] 22) := hc4
  have N0 := Lib.hid (N0.out.below hb4 N0.out.lt)
  have N1 := Lib.hid (N1.out.below hb4 N1.out.lt)
  have N2 := Lib.hid (N2.out.below hb4 N2.out.lt)
  have N3 := Lib.hid (N3.out.below hb4 N3.out.lt)
  clear hc4 hp4 hb4
  refine hK.out _ _ trivial (fun hHeld => ?_)
  clear hK K
  try simp only [Act.put]
  try simp only [List.setIfInBounds_toArray]
  try simp only [List.set_cons_succ]
  try simp only [List.set_cons_zero]
  refine wpAnyH_ready (rs := [29]) (by kernel_rfl) (by simp) ?_
  refine AllReadyH.cons rfl (fun K hK => ?_) AllReadyH.nil
  go_simp
  refine (numberIn_any _ (some ⟨b, 124, none⟩) 4 4).mono ?_
  rintro e w6 ⟨p5, rfl, hc5, hp5, hb5⟩
  have B6 : Hid (Below w0.heap.size w0 w6) := B5.out.trans (hb5.mono B5.out.size)
  have N5 : Hid (Blk w6 p5 #[.slice (some ⟨b, 124, none⟩) 4 4] 22) := hc5
  have N0 := Lib.hid (N0.out.below hb5 N0.out.lt)
  have N1 := Lib.hid (N1.out.below hb5 N1.out.lt)
  have N2 := Lib.hid (N2.out.below hb5 N2.out.lt)
  have N3 := Lib.hid (N3.out.below hb5 N3.out.lt)
  have N4 := Lib.hid (N4.out.below hb5 N4.out.lt)
  clear hc5 hp5 hb5
  refine hK.out _ _ trivial (fun hHeld => ?_)
  clear hK K
  try simp only [Act.put]
  try simp only [List.setIfInBounds_toArray]
  try simp only [List.set_cons_succ]
  try simp only [List.set_cons_zero]
  refine wpAnyH_take (i := 30) (v := .agg (partC b p0 p1 p2 p3 p4 p5)) rfl (by kernel_rfl) (by kernel_rfl) (by kernel_rfl) (fun _ _ _ h => h) (Or.inl ⟨by rfl, ?_⟩) (by assumption) ?_
  · intro w' hSw
    unfold numC
    go_simp
    rfl
  try simp only [Act.put]
  try simp only [List.setIfInBounds_toArray]
  try simp only [List.set_cons_succ]
  try simp only [List.set_cons_zero]
  refine wpAnyH_ready (rs := [31]) (by kernel_rfl) (by simp) ?_
  refine AllReadyH.cons rfl (fun K hK => ?_) AllReadyH.nil
  rw [if_pos (by simp [Region.wanted])]
  have HQ6 : Hid (Blk w6 q zeroP 92) := HQ.out.below B6.out HQ.out.lt
  refine wp_store_row 92 _ _ rfl q (partC b p0 p1 p2 p3 p4 p5) rfl rfl 92 _ HQ6.out (by rw [iParts]; rfl) rfl (partC_one _ _ _ _ _ _ _) ?_
  refine hK.out _ _ trivial (fun hHeld => ?_)
  clear hK K
  refine wpAnyH_done (by kernel_rfl) ?_ _
  have hg := grown_setRow (w := w6) (g := q) (partC b p0 p1 p2 p3 p4 p5)
  have hsr := setRow_of HQ6.out (partC b p0 p1 p2 p3 p4 p5)
  have HBF : Hid (Below w.heap.size w (w6.setRow q (partC b p0 p1 p2 p3 p4 p5))) := below_grown (HB0.out.trans (B6.out.mono HB0.out.size)) hg (Nat.le_trans HB0.out.size B6.out.size) (by rw [HQE.out]; exact Nat.le_refl _)
  have hap : ∀ {p : Nat} {cs : Array Value}, Blk w6 p cs 22 → Blk (w6.setRow q (partC b p0 p1 p2 p3 p4 p5)) p cs 22 := fun {p cs} hp => hp.grown hg (fun e => by
    obtain rfl := Option.some.inj e
    have := Option.some.inj (hp.symm.trans HQ6.out)
    injection this with _ h2; exact absurd h2 (by decide))
  have HPA : Hid (PAt (w6.setRow q (partC b p0 p1 p2 p3 p4 p5)) b p0 p1 p2 p3 p4 p5) := ⟨hap N0.out, hap N1.out, hap N2.out, hap N3.out, hap N4.out, hap N5.out⟩
  have HSR := Lib.hid hsr
  clear hg hsr hap
  go_wp2_with (refine bodyPost_ret (results_cell_row rfl _ _ q 92 (partC b p0 p1 p2 p3 p4 p5) (0, 0) _ rfl HSR.out Tryd.underlying92 rfl (by rw [iParts]; rfl)) rfl ?_)
  exact ⟨p0, p1, p2, p3, p4, p5, rfl, HPA.out, HBF.out⟩
end Go.Proofs.YtiddbdjcdoiloaaDoor

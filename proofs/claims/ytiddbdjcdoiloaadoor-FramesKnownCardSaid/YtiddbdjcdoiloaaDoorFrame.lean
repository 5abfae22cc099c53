/- The contract of the method frame. Conditions: a block of 128 bytes, the cells of its numbers. -/
import Derived.Test.YtiddbdjcdoiloaaDoorSealR
import Derived.Deep.RegionHeld
import Derived.IntWalk
namespace Go.Proofs.YtiddbdjcdoiloaaDoor
open Go.RowKit Fm

theorem strOf (y : List UInt8) : strOfNums (y.map fun c => (c.toNat : Int)) = ⟨y.toArray⟩ := by
  have e : (y.map fun c => (c.toNat : Int)).map (fun n : Int => UInt8.ofNat n.toNat) = y := by
    rw [List.map_map]
    have : ((fun n : Int => UInt8.ofNat n.toNat) ∘ fun c : UInt8 => (c.toNat : Int)) = id := by funext c; simp
    rw [this, List.map_id]
  unfold strOfNums
  rw [e]
theorem str_sl {w : World} {lim : Nat} {v : Value} {y : List UInt8} (h : SL encB w lim v y) : (convert 22 9 v).run Tryd.prog w = .ok (.string ⟨y.toArray⟩) w := by
  rcases h with ⟨rfl, rfl | ⟨ad, c, rfl⟩⟩ | ⟨b, off, c, rfl, hb, hcap, hc⟩
  · exact run_convert_bytes_nil w 22 5 Tryd.underlying22 Tryd.underlying5 0 0 9 Tryd.underlying9
  · have := run_convert_bytes_string w 22 9 5 (some ad) 0 c Tryd.underlying22 Tryd.underlying5 Tryd.underlying9
    rw [this]
    simp [Conv.bytesToString, loadCells, loadCellsFrom]
    rfl
  · have := run_convert_bytes_arg (P := Tryd.prog) w 22 5 Tryd.underlying22 Tryd.underlying5 b off y.length c (y.map fun c => (c.toNat : Int)) (by simp) (fun i hi => by
      rw [hc i hi]
      simp [encB, List.getD_eq_getElem?_getD, hi]) 9 Tryd.underlying9
    rw [this, strOf]
theorem num_one (l : List UInt8) (o : Nat) (h : o < l.length) : num (sub l o 1) = (l.getD o 0).toNat := by
  have e : sub l o 1 = [l[o]] := by
    unfold sub
    rw [List.drop_eq_getElem_cons h]; rfl
  rw [e]
  simp [num, List.getD_eq_getElem?_getD, h]
theorem iFr : (Tryd.prog.info? 36).map (·.size) = some 3 := by kernel_rfl
theorem results_row2 {fn : Func} {p u : Tmp} {ty t : TypeId} {d : TypeDesc} (h : fn.results = #[.cell p ty, .tmp u]) (tmps : Array Value) (w : World) (q : Nat) (cs : Array Value) (hp : tmps.getD p undef = .pointer (some ⟨q, 0, none⟩)) (hb : Blk w q cs t)
    (hd : (match d with | .struct _ | .array _ _ => true | _ => false) = true) (hu : Tryd.prog.underlying ty = some d) (hi : (Tryd.prog.info? ty).map (·.size) = some cs.size) :
    (results fn tmps).run Tryd.prog w = .ok (.tuple #[.agg cs, tmps.getD u undef]) w := by
  have hl := run_loadVar_row (P := Tryd.prog) w q t ty cs (0, 0) d hb hu (by cases d <;> first | rfl | exact absurd hd (by simp)) hi
  have h1 : (results fn tmps).run Tryd.prog w = ((asAddr (tmps.getD p undef)).run Tryd.prog w).andThen fun a w₁ => ((loadVar ty a).run Tryd.prog w₁).andThen fun v w₂ => .ok (.tuple #[v, tmps.getD u undef]) w₂ := by
    simp only [results, h]
    simp [Sem.run_bind, Result.andThen]
  rw [h1, hp]
  have : (asAddr (.pointer (some ⟨q, 0, none⟩))).run Tryd.prog w = .ok ⟨q, 0, none⟩ w := rfl
  rw [this]
  simp only [Result.andThen_ok, hl]
/-- A frame as a value. -/
def frV (f : Frm) : Value := .agg #[.int .i64 (f.kind : Int), .int .u32 (f.seq : Int), .string ⟨f.data.toArray⟩]
/-- What the parts of a sector say. -/
def partF (l : List UInt8) : Frm := ⟨kindOf l, num (sub l 4 4), sub l 8 (min (lenOf l) 112)⟩
set_option maxRecDepth 100000 in
set_option maxHeartbeats 4000000 in
theorem frame_any (w : World) (b p0 p1 p2 p3 p4 p5 : Nat) (l : List UInt8) (hP : PAt w b p0 p1 p2 p3 p4 p5) (hB : ByB w b l) (hl : l.length = 128) :
    Calls Tryd.prog 54 #[.agg (partC b p0 p1 p2 p3 p4 p5)] w fun e w' => e = .returned (.tuple #[frV (partF l), .int .i64 ((placeOf l : Nat) : Int)]) ∧ Below w.heap.size w w' := by
  have hp : (Value.agg (partC b p0 p1 p2 p3 p4 p5)).cells = partC b p0 p1 p2 p3 p4 p5 := rfl
  obtain ⟨w2, hw2⟩ : ∃ w2, w2 = (w.alloc (.cells (partC b p0 p1 p2 p3 p4 p5) 92)).alloc (.cells #[.int .i64 0, .int .u32 0, .string ⟨#[]⟩] 36) := ⟨_, rfl⟩
  have hB2 : Below w.heap.size w w2 := by rw [hw2]; exact ((Below.refl _ _).alloc (Nat.le_refl _) _).alloc (by simp) _
  have HB0 := Lib.hid hB2
  obtain ⟨q, hq⟩ : ∃ q, q = w.heap.size := ⟨_, rfl⟩
  obtain ⟨fb, hfb⟩ : ∃ fb, fb = w.heap.size + 1 := ⟨_, rfl⟩
  have HQ : Hid (Blk w2 q (partC b p0 p1 p2 p3 p4 p5) 92) := by rw [hw2, hq]; exact (Blk.new w _ _).below ((Below.refl _ _).alloc (Nat.le_refl _) _) (by simp)
  have HFB : Hid (Blk w2 fb #[.int .i64 0, .int .u32 0, .string ⟨#[]⟩] 36) := by
    have := Blk.new (w.alloc (.cells (partC b p0 p1 p2 p3 p4 p5) 92)) #[.int .i64 0, .int .u32 0, .string ⟨#[]⟩] 36
    rw [show (w.alloc (.cells (partC b p0 p1 p2 p3 p4 p5) 92)).heap.size = w.heap.size + 1 by simp, ← hw2, ← hfb] at this; exact this
  have HB2 : Hid (ByB w2 b l) := Blk.below hB hB2 (Blk.lt hB)
  have HPA : Hid (PAt w2 b p0 p1 p2 p3 p4 p5) := ⟨hP.c0.below hB2 hP.c0.lt, hP.c1.below hB2 hP.c1.lt, hP.c2.below hB2 hP.c2.lt, hP.c3.below hB2 hP.c3.lt, hP.c4.below hB2 hP.c4.lt, hP.c5.below hB2 hP.c5.lt⟩
  have cr2 := par_r2 HQ.out
  rw [hw2, hq] at cr2
  obtain ⟨m, hm⟩ : ∃ m, m = min (lenOf l) 112 := ⟨_, rfl⟩
  have hmin : min ((lenOf l : Nat) : Int) 112 = (m : Int) := by omega
  have hm112 : m ≤ 112 := by omega
  have HM := Lib.hid hm
  have HSZ : Hid (num (sub l 2 1) = lenOf l) := num_one l 2 (by omega)
  obtain ⟨kd, hkd⟩ : ∃ kd, kd = kindOf l := ⟨_, rfl⟩
  have HKN : Hid (num (sub l 1 1) = kd) := by rw [hkd]; exact num_one l 1 (by omega)
  have hkd8 : kd < 256 := by rw [hkd]; exact (l.getD 1 0).toNat_lt
  have HWK : Hid (IntKind.i64.wrap (kd : Int) = (kd : Int)) := IntWalk.i64_in _ (by omega)
  obtain ⟨pn, hpn⟩ : ∃ pn, pn = placeOf l := ⟨_, rfl⟩
  have HPN : Hid (num (sub l 120 4) = pn) := by rw [hpn]; rfl
  have hpn8 : pn < 4294967296 := by
    rw [hpn]
    have := num_lt (sub l 120 4)
    rw [sub_len _ _ _ (by omega)] at this; exact this
  have HWP : Hid (IntKind.i64.wrap (pn : Int) = (pn : Int)) := IntWalk.i64_in _ (by omega)
  have HKD := Lib.hid hkd
  rw [← hpn]
  have HPE := Lib.hid hpn
  clear hkd hpn
  have HSTR : Hid (∀ W, ByB W b l → (convert 22 9 (.slice (some ⟨b, 8, none⟩) m 112)).run Tryd.prog W = .ok (.string ⟨(sub l 8 m).toArray⟩) W) := fun W hW => str_sl (hW.sl 8 m 112 (by omega) (by omega))
  have HQE := Lib.hid hq
  have HFE := Lib.hid hfb
  clear hB2 hB hP hm
  go_enter Tryd.func54, Tryd.ntmps54
  go_wp2_with fail
  rw [← hw2, ← hfb, ← hq]
  clear hw2 hq hfb cr2 hp
  refine (read_num w2 p2 b 2 1 1 l (HPA.out.c2.cell 0 rfl) HB2.out (by omega) (by omega)).mono ?_
  rintro e w' ⟨rfl, rfl⟩
  rw [HSZ.out]
  go_wp2_with fail
  all_goals
    have HQ3 : Hid (Blk (w2.drew.setRow fb #[.int .i64 (kd : Int), .int .u32 ((num (sub l 4 4) : Nat) : Int), .string ⟨(sub l 8 m).toArray⟩]) q (partC b p0 p1 p2 p3 p4 p5) 92) := (HQ.out.drewN 1).grown (grown_setRow _) (fun e => by
      have e1 := Option.some.inj e
      have e2 := HQE.out
      have e3 := HFE.out
      omega)
    have HB3 : Hid (ByB (w2.drew.setRow fb #[.int .i64 (kd : Int), .int .u32 ((num (sub l 4 4) : Nat) : Int), .string ⟨(sub l 8 m).toArray⟩]) b l) := Blk.grown (w := w2.drew) HB2.out (grown_setRow _) (fun e => by
      have e1 := Option.some.inj e
      exact HB2.out.type_ne HFB.out (by decide) e1.symm)
    first
    | rw [show ((lenOf l : Nat) : Int) = (m : Int) from by have := HM.out; omega]
    | rw [show (112 : Int) = (m : Int) from by have := HM.out; omega]
    have hmI : (m : Int) ≤ 112 := by omega
    clear hmin
    refine wp_region_held_drew (S := fun W => Blk W q (partC b p0 p1 p2 p3 p4 p5) 92 ∧ ByB W b l) (by kernel_rfl) ⟨HQ.out.drewN 1, HB2.out⟩ (fun hHeld => ?_)
    refine wpAnyH_take (i := 0) (v := ?_) rfl (by kernel_rfl) (by kernel_rfl) (by kernel_rfl) (fun _ _ _ h => h) (Or.inl ⟨by rfl, ?_⟩) (by assumption) ?_
    rotate_left
    · intro w' hSw
      go_simp
      try with_reducible rfl
    try simp only [Act.put]
    try simp only [List.setIfInBounds_toArray]
    try simp only [List.set_cons_succ]
    try simp only [List.set_cons_zero]
    refine wpAnyH_take (i := 1) (v := ?_) rfl (by kernel_rfl) (by kernel_rfl) (by kernel_rfl) (fun _ _ _ h => h) (Or.inl ⟨by rfl, ?_⟩) (by assumption) ?_
    rotate_left
    · intro w' hSw
      go_simp
      try with_reducible rfl
    try simp only [Act.put]
    try simp only [List.setIfInBounds_toArray]
    try simp only [List.set_cons_succ]
    try simp only [List.set_cons_zero]
    refine wpAnyH_take (i := 2) (v := ?_) rfl (by kernel_rfl) (by kernel_rfl) (by kernel_rfl) (fun _ _ _ h => h) (Or.inl ⟨by rfl, ?_⟩) (by assumption) ?_
    rotate_left
    · intro w' hSw
      have cc := par_r1 hSw.1; go_simp
      try with_reducible rfl
    try simp only [Act.put]
    try simp only [List.setIfInBounds_toArray]
    try simp only [List.set_cons_succ]
    try simp only [List.set_cons_zero]
    refine wpAnyH_take (i := 5) (v := ?_) rfl (by kernel_rfl) (by kernel_rfl) (by kernel_rfl) (fun _ _ _ h => h) (Or.inl ⟨by rfl, ?_⟩) (by assumption) ?_
    rotate_left
    · intro w' hSw
      go_simp
      try with_reducible rfl
    try simp only [Act.put]
    try simp only [List.setIfInBounds_toArray]
    try simp only [List.set_cons_succ]
    try simp only [List.set_cons_zero]
    refine wpAnyH_take (i := 6) (v := ?_) rfl (by kernel_rfl) (by kernel_rfl) (by kernel_rfl) (fun _ _ _ h => h) (Or.inl ⟨by rfl, ?_⟩) (by assumption) ?_
    rotate_left
    · intro w' hSw
      go_simp
      try with_reducible rfl
    try simp only [Act.put]
    try simp only [List.setIfInBounds_toArray]
    try simp only [List.set_cons_succ]
    try simp only [List.set_cons_zero]
    refine wpAnyH_take (i := 7) (v := ?_) rfl (by kernel_rfl) (by kernel_rfl) (by kernel_rfl) (fun _ _ _ h => h) (Or.inl ⟨by rfl, ?_⟩) (by assumption) ?_
    rotate_left
    · intro w' hSw
      have cc := par_r3 hSw.1; go_simp
      try with_reducible rfl
    try simp only [Act.put]
    try simp only [List.setIfInBounds_toArray]
    try simp only [List.set_cons_succ]
    try simp only [List.set_cons_zero]
    refine wpAnyH_take (i := 9) (v := ?_) rfl (by kernel_rfl) (by kernel_rfl) (by kernel_rfl) (fun _ _ _ h => h) (Or.inl ⟨by rfl, ?_⟩) (by assumption) ?_
    rotate_left
    · intro w' hSw
      go_simp
      try with_reducible rfl
    try simp only [Act.put]
    try simp only [List.setIfInBounds_toArray]
    try simp only [List.set_cons_succ]
    try simp only [List.set_cons_zero]
    refine wpAnyH_take (i := 10) (v := ?_) rfl (by kernel_rfl) (by kernel_rfl) (by kernel_rfl) (fun _ _ _ h => h) (Or.inl ⟨by rfl, ?_⟩) (by assumption) ?_
    rotate_left
    · intro w' hSw
      have cc := par_d hSw.1; go_simp
      try with_reducible rfl
    try simp only [Act.put]
    try simp only [List.setIfInBounds_toArray]
    try simp only [List.set_cons_succ]
    try simp only [List.set_cons_zero]
    refine wpAnyH_take (i := 11) (v := ?_) rfl (by kernel_rfl) (by kernel_rfl) (by kernel_rfl) (fun _ _ _ h => h) (Or.inl ⟨by rfl, ?_⟩) (by assumption) ?_
    rotate_left
    · intro w' hSw
      go_simp
      try with_reducible rfl
    try simp only [Act.put]
    try simp only [List.setIfInBounds_toArray]
    try simp only [List.set_cons_succ]
    try simp only [List.set_cons_zero]
    refine wpAnyH_take (i := 12) (v := ?_) rfl (by kernel_rfl) (by kernel_rfl) (by kernel_rfl) (fun _ _ _ h => h) (Or.inl ⟨by rfl, ?_⟩) (by assumption) ?_
    rotate_left
    · intro w' hSw
      go_simp
      try with_reducible rfl
    try simp only [Act.put]
    try simp only [List.setIfInBounds_toArray]
    try simp only [List.set_cons_succ]
    try simp only [List.set_cons_zero]
    refine wpAnyH_take (i := 13) (v := ?_) rfl (by kernel_rfl) (by kernel_rfl) (by kernel_rfl) (fun _ _ _ h => h) (Or.inl ⟨by rfl, ?_⟩) (by assumption) ?_
    rotate_left
    · intro w' hSw
      have cc := HSTR.out w' hSw.2; go_simp
      try with_reducible rfl
    try simp only [Act.put]
    try simp only [List.setIfInBounds_toArray]
    try simp only [List.set_cons_succ]
    try simp only [List.set_cons_zero]
    refine wpAnyH_ready (rs := [3]) (by kernel_rfl) (by simp) ?_
    refine AllReadyH.cons rfl (fun K hK => ?_) AllReadyH.nil
    go_simp
    refine (read_num w2.drew p1 b 1 1 1 l (Blk.cell (w := w2.drew) HPA.out.c1 0 rfl) (show ByB w2.drew b l from HB2.out) (by omega) (by omega)).mono ?_
    rintro e w' ⟨rfl, rfl⟩
    refine hK.out _ _ ⟨HQ.out.drewN 1, HB2.out⟩ (fun hHeld => ?_)
    clear hK K
    try simp only [Act.put]
    try simp only [List.setIfInBounds_toArray]
    try simp only [List.set_cons_succ]
    try simp only [List.set_cons_zero]
    rw [HKN.out]
    refine wpAnyH_take (i := 4) (v := ?_) rfl (by kernel_rfl) (by kernel_rfl) (by kernel_rfl) (fun _ _ _ h => h) (Or.inl ⟨by rfl, ?_⟩) (by assumption) ?_
    rotate_left
    · intro w' hSw
      have cw := HWK.out; go_simp
      try with_reducible rfl
    try simp only [Act.put]
    try simp only [List.setIfInBounds_toArray]
    try simp only [List.set_cons_succ]
    try simp only [List.set_cons_zero]
    refine wpAnyH_ready (rs := [8]) (by kernel_rfl) (by simp) ?_
    refine AllReadyH.cons rfl (fun K hK => ?_) AllReadyH.nil
    go_simp
    refine (read_num w2.drew p3 b 4 4 4 l (Blk.cell (w := w2.drew) HPA.out.c3 0 rfl) (show ByB w2.drew b l from HB2.out) (by omega) (by omega)).mono ?_
    rintro e w' ⟨rfl, rfl⟩
    refine hK.out _ _ ⟨HQ.out.drewN 1, HB2.out⟩ (fun hHeld => ?_)
    clear hK K
    try simp only [Act.put]
    try simp only [List.setIfInBounds_toArray]
    try simp only [List.set_cons_succ]
    try simp only [List.set_cons_zero]
    refine wpAnyH_take (i := 14) (v := ?_) rfl (by kernel_rfl) (by kernel_rfl) (by kernel_rfl) (fun _ _ _ h => h) (Or.inl ⟨by rfl, ?_⟩) (by assumption) ?_
    rotate_left
    · intro w' hSw
      go_simp
      try with_reducible rfl
    try simp only [Act.put]
    try simp only [List.setIfInBounds_toArray]
    try simp only [List.set_cons_succ]
    try simp only [List.set_cons_zero]
    refine wpAnyH_ready (rs := [15]) (by kernel_rfl) (by simp) ?_
    refine AllReadyH.cons rfl (fun K hK => ?_) AllReadyH.nil
    rw [if_pos (by simp [Region.wanted])]
    refine wp_store_row 36 _ _ rfl fb #[.int .i64 (kd : Int), .int .u32 ((num (sub l 4 4) : Nat) : Int), .string ⟨(sub l 8 m).toArray⟩] rfl rfl 36 _ (HFB.out.drewN 1) (by rw [iFr]; rfl) rfl (by simp [Value.oneCell']) ?_
    refine hK.out _ _ ⟨HQ3.out, HB3.out⟩ (fun hHeld => ?_)
    clear hK K
    try simp only [List.getElem_toArray, List.getElem_cons_succ, List.getElem_cons_zero]
    try simp only [Act.put]
    try simp only [List.setIfInBounds_toArray]
    try simp only [List.set_cons_succ]
    try simp only [List.set_cons_zero]
    refine wpAnyH_done (by kernel_rfl) ?_ _
    go_wp2_with fail
    obtain ⟨FC, hFC⟩ : ∃ FC : Array Value, FC = #[.int .i64 (kd : Int), .int .u32 ((num (sub l 4 4) : Nat) : Int), .string ⟨(sub l 8 m).toArray⟩] := ⟨_, rfl⟩
    have HC0 : FC[0]? = some (.int .i64 (kd : Int)) := by rw [hFC]; rfl
    have HC1 : FC[1]? = some (.int .u32 ((num (sub l 4 4) : Nat) : Int)) := by rw [hFC]; rfl
    have HC2 : FC[2]? = some (.string ⟨(sub l 8 m).toArray⟩) := by rw [hFC]; rfl
    obtain ⟨w5, hw5⟩ : ∃ w5, w5 = w2.drew.setRow fb #[.int .i64 (kd : Int), .int .u32 ((num (sub l 4 4) : Nat) : Int), .string ⟨(sub l 8 m).toArray⟩] := ⟨_, rfl⟩
    rw [← hw5] at HQ3 HB3 ⊢
    have HQ5 := HQ3
    have HB5 := HB3
    have HF5 : Hid (Blk w5 fb FC 36) := by rw [hw5, hFC]; exact setRow_of (HFB.out.drewN 1) _
    have hg5 : w2.grownBy w5 (some fb) := by rw [hw5]; exact grown_trans (grown_drewN (grown_refl w2 _) 1) (grown_setRow _)
    have HPA5 : Hid (Blk w5 p4 #[.slice (some ⟨b, 120, none⟩) 4 4] 22) := HPA.out.c4.grown hg5 (fun e => by
      obtain rfl := Option.some.inj e
      have := Option.some.inj (HPA.out.c4.symm.trans HFB.out)
      injection this with _ h2; exact absurd h2 (by decide))
    have HBL : Hid (Below w.heap.size w w5) := below_grown HB0.out hg5 HB0.out.size (by have := HFE.out; omega)
    have HFC := Lib.hid hFC
    have HG6 := Lib.hid (grown_setRow (w := w5.drew) (g := fb) #[.int .i64 (kd : Int), .int .u32 ((num (sub l 4 4) : Nat) : Int), .string ⟨(sub l 8 m).toArray⟩])
    have HF6 : Hid (Blk (w5.drew.setRow fb #[.int .i64 (kd : Int), .int .u32 ((num (sub l 4 4) : Nat) : Int), .string ⟨(sub l 8 m).toArray⟩]) fb FC 36) := by rw [hFC]; exact setRow_of (HF5.out.drewN 1) _
    have HQ6 : Hid (Blk (w5.drew.setRow fb #[.int .i64 (kd : Int), .int .u32 ((num (sub l 4 4) : Nat) : Int), .string ⟨(sub l 8 m).toArray⟩]) q (partC b p0 p1 p2 p3 p4 p5) 92) := (HQ5.out.drewN 1).grown HG6.out (fun e => by
      have e1 := Option.some.inj e
      have e2 := HQE.out
      have e3 := HFE.out
      omega)
    have HBL6 : Hid (Below w.heap.size w (w5.drew.setRow fb #[.int .i64 (kd : Int), .int .u32 ((num (sub l 4 4) : Nat) : Int), .string ⟨(sub l 8 m).toArray⟩])) := below_grown (below_drewN HBL.out 1) HG6.out HBL.out.size (by have := HFE.out; omega)
    clear hFC hw5 hg5 HQ3 HB3
    refine wp_region_held_drew (S := fun W => Blk W q (partC b p0 p1 p2 p3 p4 p5) 92 ∧ Blk W fb FC 36) (by kernel_rfl) ⟨HQ5.out.drewN 1, HF5.out.drewN 1⟩ (fun hHeld => ?_)
    refine wpAnyH_take (i := 0) (v := ?_) rfl (by kernel_rfl) (by kernel_rfl) (by kernel_rfl) (fun _ _ _ h => h) (Or.inl ⟨by rfl, ?_⟩) (by assumption) ?_
    rotate_left
    · intro w' hSw
      have k0 := hSw.2.cell 0 HC0; have k1 := hSw.2.cell 1 HC1; have k2 := hSw.2.cell 2 HC2; go_simp
      try with_reducible rfl
    try simp only [Act.put]
    try simp only [List.setIfInBounds_toArray]
    try simp only [List.set_cons_succ]
    try simp only [List.set_cons_zero]
    refine wpAnyH_take (i := 1) (v := ?_) rfl (by kernel_rfl) (by kernel_rfl) (by kernel_rfl) (fun _ _ _ h => h) (Or.inl ⟨by rfl, ?_⟩) (by assumption) ?_
    rotate_left
    · intro w' hSw
      go_simp
      try with_reducible rfl
    try simp only [Act.put]
    try simp only [List.setIfInBounds_toArray]
    try simp only [List.set_cons_succ]
    try simp only [List.set_cons_zero]
    refine wpAnyH_take (i := 2) (v := ?_) rfl (by kernel_rfl) (by kernel_rfl) (by kernel_rfl) (fun _ _ _ h => h) (Or.inl ⟨by rfl, ?_⟩) (by assumption) ?_
    rotate_left
    · intro w' hSw
      go_simp
      try with_reducible rfl
    try simp only [Act.put]
    try simp only [List.setIfInBounds_toArray]
    try simp only [List.set_cons_succ]
    try simp only [List.set_cons_zero]
    refine wpAnyH_take (i := 3) (v := ?_) rfl (by kernel_rfl) (by kernel_rfl) (by kernel_rfl) (fun _ _ _ h => h) (Or.inl ⟨by rfl, ?_⟩) (by assumption) ?_
    rotate_left
    · intro w' hSw
      have cc := par_r4 hSw.1; go_simp
      try with_reducible rfl
    try simp only [Act.put]
    try simp only [List.setIfInBounds_toArray]
    try simp only [List.set_cons_succ]
    try simp only [List.set_cons_zero]
    refine wpAnyH_ready (rs := [4]) (by kernel_rfl) (by simp) ?_
    refine AllReadyH.cons rfl (fun K hK => ?_) AllReadyH.nil
    go_simp
    refine (read_num w5.drew p4 b 120 4 4 l (Blk.cell (w := w5.drew) HPA5.out 0 rfl) (show ByB w5.drew b l from HB5.out) (by omega) (by omega)).mono ?_
    rintro e w' ⟨rfl, rfl⟩
    refine hK.out _ _ ⟨HQ5.out.drewN 1, HF5.out.drewN 1⟩ (fun hHeld => ?_)
    clear hK K
    try simp only [Act.put]
    try simp only [List.setIfInBounds_toArray]
    try simp only [List.set_cons_succ]
    try simp only [List.set_cons_zero]
    rw [HPN.out]
    refine wpAnyH_take (i := 5) (v := ?_) rfl (by kernel_rfl) (by kernel_rfl) (by kernel_rfl) (fun _ _ _ h => h) (Or.inl ⟨by rfl, ?_⟩) (by assumption) ?_
    rotate_left
    · intro w' hSw
      have cw := HWP.out; go_simp
      try with_reducible rfl
    try simp only [Act.put]
    try simp only [List.setIfInBounds_toArray]
    try simp only [List.set_cons_succ]
    try simp only [List.set_cons_zero]
    refine wpAnyH_ready (rs := [6]) (by kernel_rfl) (by simp) ?_
    refine AllReadyH.cons rfl (fun K hK => ?_) AllReadyH.nil
    rw [if_pos (by simp [Region.wanted])]
    refine wp_store_row 36 _ _ rfl fb #[.int .i64 (kd : Int), .int .u32 ((num (sub l 4 4) : Nat) : Int), .string ⟨(sub l 8 m).toArray⟩] rfl rfl 36 _ (HF5.out.drewN 1) (by rw [iFr]; rfl) (by rw [HFC.out]) (by simp [Value.oneCell']) ?_
    refine hK.out _ _ ⟨HQ6.out, HF6.out⟩ (fun hHeld => ?_)
    clear hK K
    try simp only [List.getElem_toArray, List.getElem_cons_succ, List.getElem_cons_zero]
    try simp only [Act.put]
    try simp only [List.setIfInBounds_toArray]
    try simp only [List.set_cons_succ]
    try simp only [List.set_cons_zero]
    refine wpAnyH_ready (rs := [7]) (by kernel_rfl) (by simp) ?_
    refine AllReadyH.cons rfl (fun K hK => ?_) AllReadyH.nil
    go_simp
    refine hK.out _ _ ⟨HQ6.out, HF6.out⟩ (fun hHeld => ?_)
    clear hK K
    try simp only [Act.put]
    try simp only [List.setIfInBounds_toArray]
    try simp only [List.set_cons_succ]
    try simp only [List.set_cons_zero]
    refine wpAnyH_done (by kernel_rfl) ?_ _
    go_wp2_with (refine bodyPost_ret (results_row2 rfl _ _ fb FC rfl HF6.out rfl Tryd.underlying36 (by rw [iFr, HFC.out]; rfl)) rfl ?_)
    refine ⟨?_, HBL6.out⟩
    have e1 := HFC.out
    have e2 := HKD.out
    have e3 := HM.out
    subst e1 e2 e3
    rfl
end Go.Proofs.YtiddbdjcdoiloaaDoor

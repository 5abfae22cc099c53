/- A device in memory: its block, its rows, its map; what turns with it. Condition: the types have the numbers of this translation. -/
import Derived.Test.YtiddbdjcdoiloaaDoorBase
namespace Go.Proofs.YtiddbdjcdoiloaaDoor
open Go.RowKit Go.Maps

theorem infoDev : (Tryd.prog.info? 106).isSome = true := by kernel_rfl
theorem uDevP : Tryd.prog.underlying 54 = some (.pointer 106) := by kernel_rfl
theorem eq_self (w : World) (a : Addr) : (binOp .eql 54 (.pointer (some a)) (.pointer (some a))).run Tryd.prog w = .ok (.bool true) w := by
  obtain ⟨i, hi⟩ := Option.isSome_iff_exists.1 infoDev
  exact run_eql_ptr_same w a uDevP hi
theorem eq_nil_some (w : World) (a : Addr) : (binOp .eql 54 (.pointer none) (.pointer (some a))).run Tryd.prog w = .ok (.bool false) w := by
  have h : ∀ d : Nat, (Op.equalIn (d + 1) 54 (.pointer none) (.pointer (some a))).run Tryd.prog w = .ok false w := fun d => by
    simp [Op.equalIn, run_underlying uDevP]
  simp only [binOp]
  simp [Op.equal, Op.maxDepth, h 9999]
theorem intLaw : Keyed Tryd.prog 3 := int_keyed Tryd.underlying3
theorem uMap : Tryd.prog.underlying 104 = some (.map 3 3) := Tryd.underlying104
theorem zeroInt (w : World) : (zeroValue 3).run Tryd.prog w = .ok (.int .i64 0) w := by kernel_rfl
abbrev MD := DataW Unit
/-- The map of the newest writes. -/
def NW (D : MD) (ca : List Dv.Wr) : Prop := ∀ k : Nat, k ≤ 256 → Maps.has D (.int .i64 (k : Int)) = (Dv.lastI ca k).isSome ∧ ∀ i, Dv.lastI ca k = some i → D.atKey (.int .i64 (k : Int)) (.lit (.int .i64 0)) = .lit (.int .i64 (i : Int))
noncomputable abbrev pl : Value → Option (MD × List MemPlace) := plainElem Tryd.prog 3
/-- The cells of a device. -/
def dC (b g n c : Nat) (cv : Value) (tk : Nat) (pw : Int) (off : Bool) (m : Nat) : Array Value :=
  #[.pointer (some ⟨b, 0, none⟩), .slice (some ⟨g, 0, none⟩) n c, cv, .int .i64 (tk : Int), .int .i64 pw, .bool off, .map (some m)]
structure DevR (w : World) (b g c : Nat) (cv : Value) (m : Nat) (s : Dv.S) : Prop where
  blk : Blk w b (dC b g s.st.length c cv s.tk s.pw s.off m) 106
  stb : Stb w g s.st
  cap : s.st.length ≤ c
  cch : Cch w 0 cv s.ca
  nw : ∃ D : MD, w.ownsMap Tryd.prog 3 pl m s.ca.length D ∧ NW D s.ca
  ok : Dv.Ok s
/-- The blocks of a device. -/
def foot (b g : Nat) (cv : Value) (m : Nat) : List Nat := b :: g :: m :: cv.ownBlock.toList
/-- A device at b, with the blocks F. -/
def DevAt (w : World) (b : Nat) (F : List Nat) (s : Dv.S) : Prop := ∃ g c cv m, DevR w b g c cv m s ∧ F = foot b g cv m
section
variable {w w' : World} {b g c m : Nat} {cv : Value} {s : Dv.S} {F : List Nat}
theorem foot_mem {i : Nat} : i ∈ foot b g cv m ↔ i = b ∨ i = g ∨ i = m ∨ cv.ownBlock = some i := by
  unfold foot; simp
theorem DevR.mapBlk (h : DevR w b g c cv m s) : ∃ es clock, w.heap[m]? = some (.map es clock) := by
  obtain ⟨D, ⟨es, clock, hb, _⟩, _⟩ := h.nw; exact ⟨es, clock, hb⟩
theorem DevR.ne_bg (h : DevR w b g c cv m s) : b ≠ g := fun e => by
  subst e
  obtain ⟨cs, hb⟩ := h.stb.blk
  have := Option.some.inj (hb.symm.trans h.blk)
  injection this with _ h2; exact absurd h2 (by decide)
theorem DevR.ne_bm (h : DevR w b g c cv m s) : b ≠ m := fun e => by
  subst e
  obtain ⟨es, clock, hm⟩ := h.mapBlk
  exact Obj.noConfusion (Option.some.inj (hm.symm.trans h.blk))
theorem DevR.ne_gm (h : DevR w b g c cv m s) : g ≠ m := fun e => by
  subst e
  obtain ⟨es, clock, hm⟩ := h.mapBlk
  obtain ⟨cs, hb⟩ := h.stb.blk
  exact Obj.noConfusion (Option.some.inj (hm.symm.trans hb))
theorem DevR.ne_bc (h : DevR w b g c cv m s) : some b ≠ cv.ownBlock := h.cch.apart h.blk (by decide)
theorem DevR.ne_gc (h : DevR w b g c cv m s) : some g ≠ cv.ownBlock := by obtain ⟨cs, hb⟩ := h.stb.blk; exact h.cch.apart hb (by decide)
theorem DevR.ne_mc (h : DevR w b g c cv m s) : some m ≠ cv.ownBlock := by obtain ⟨es, clock, hm⟩ := h.mapBlk; exact h.cch.apart_map hm
theorem ownsMap_of_block {n : Nat} {D : MD} (h : w.ownsMap Tryd.prog 3 pl m n D) (he : w'.heap[m]? = w.heap[m]?) : w'.ownsMap Tryd.prog 3 pl m n D := by
  obtain ⟨es, clock, hb, r⟩ := h; exact ⟨es, clock, he.trans hb, r⟩
theorem DevR.lt (h : DevR w b g c cv m s) {i : Nat} (hi : i ∈ foot b g cv m) : i < w.heap.size := by
  rcases foot_mem.1 hi with rfl | rfl | rfl | e
  · exact h.blk.lt
  · exact h.stb.lt
  · obtain ⟨es, clock, hm⟩ := h.mapBlk; exact (Array.getElem?_eq_some_iff.1 hm).1
  · exact (World.ownsRow.lt h.cch i e).2
/-- A device whose blocks stand stays. -/
theorem DevR.stay (h : DevR w b g c cv m s) (hb : ∀ i ∈ foot b g cv m, w'.heap[i]? = w.heap[i]?) : DevR w' b g c cv m s := by
  refine ⟨h.blk.of_block (hb b (by simp [foot])), h.stb.of_block (hb g (by simp [foot])), h.cap, ?_, ?_, h.ok⟩
  · have hc := h.cch
    refine ⟨hc.1, ?_⟩
    rcases hc.2 with h0 | ⟨k, cap, cur, hv, h1, h2, h3⟩
    · exact .inl h0
    · exact .inr ⟨k, cap, cur, hv, h1, (hb k (foot_mem.2 (.inr (.inr (.inr (by rw [hv]; rfl)))))).trans h2, h3⟩
  · obtain ⟨D, hD, hN⟩ := h.nw
    exact ⟨D, ownsMap_of_block hD (hb m (by simp [foot])), hN⟩
theorem DevR.drewN (h : DevR w b g c cv m s) (k : Nat) : DevR (w.drewN k) b g c cv m s := h.stay (fun _ _ => rfl)
theorem DevR.below (h : DevR w b g c cv m s) (hb : Below w.heap.size w w') : DevR w' b g c cv m s := h.stay (fun i hi => hb.block i (h.lt hi))
theorem DevR.fr {G : List Nat} (h : DevR w b g c cv m s) (hf : Fr w w' G) (hn : ∀ i ∈ foot b g cv m, i ∉ G) : DevR w' b g c cv m s :=
  h.stay (fun i hi => hf.block i (h.lt hi) (hn i hi))
theorem DevAt.lt (h : DevAt w b F s) {i : Nat} (hi : i ∈ F) : i < w.heap.size := by
  obtain ⟨g, c, cv, m, h, rfl⟩ := h; exact h.lt hi
theorem DevAt.below (h : DevAt w b F s) (hb : Below w.heap.size w w') : DevAt w' b F s := by
  obtain ⟨g, c, cv, m, h, rfl⟩ := h; exact ⟨g, c, cv, m, h.below hb, rfl⟩
theorem DevAt.drewN (h : DevAt w b F s) (k : Nat) : DevAt (w.drewN k) b F s := by
  obtain ⟨g, c, cv, m, h, rfl⟩ := h; exact ⟨g, c, cv, m, h.drewN k, rfl⟩
theorem DevAt.fr {G : List Nat} (h : DevAt w b F s) (hf : Fr w w' G) (hn : ∀ i ∈ F, i ∉ G) : DevAt w' b F s := by
  obtain ⟨g, c, cv, m, h, rfl⟩ := h; exact ⟨g, c, cv, m, h.fr hf hn, rfl⟩
theorem DevAt.ok (h : DevAt w b F s) : Dv.Ok s := by obtain ⟨g, c, cv, m, h, _⟩ := h; exact h.ok
theorem DevAt.mem (h : DevAt w b F s) : b ∈ F := by obtain ⟨g, c, cv, m, _, rfl⟩ := h; simp [foot]
theorem DevR.c0 (h : DevR w b g c cv m s) : w.cell? ⟨b, 0, none⟩ = some (.pointer (some ⟨b, 0, none⟩)) := h.blk.cell 0 rfl
theorem DevR.c1 (h : DevR w b g c cv m s) : w.cell? ⟨b, 1, none⟩ = some (.slice (some ⟨g, 0, none⟩) s.st.length c) := h.blk.cell 1 rfl
theorem DevR.c2 (h : DevR w b g c cv m s) : w.cell? ⟨b, 2, none⟩ = some cv := h.blk.cell 2 rfl
theorem DevR.c3 (h : DevR w b g c cv m s) : w.cell? ⟨b, 3, none⟩ = some (.int .i64 (s.tk : Int)) := h.blk.cell 3 rfl
theorem DevR.c4 (h : DevR w b g c cv m s) : w.cell? ⟨b, 4, none⟩ = some (.int .i64 s.pw) := h.blk.cell 4 rfl
theorem DevR.c5 (h : DevR w b g c cv m s) : w.cell? ⟨b, 5, none⟩ = some (.bool s.off) := h.blk.cell 5 rfl
theorem DevR.c6 (h : DevR w b g c cv m s) : w.cell? ⟨b, 6, none⟩ = some (.map (some m)) := h.blk.cell 6 rfl
/-- A cell of the device's own block is written, and nothing else. -/
theorem DevR.set {o : Nat} {v : Value} {s' : Dv.S} (h : DevR w b g c cv m s) (hd : (dC b g s.st.length c cv s.tk s.pw s.off m).setIfInBounds o v = dC b g s.st.length c cv s'.tk s'.pw s'.off m) (h1 : s'.st = s.st) (h2 : s'.ca = s.ca) (hk : Dv.Ok s') :
    DevR (w.setCell ⟨b, o, none⟩ v) b g c cv m s' := by
  have hg := grown_setCell w b o v
  refine ⟨?_, ?_, by rw [h1]; exact h.cap, ?_, ?_, hk⟩
  · have := h.blk.set o v
    rw [hd] at this; rw [h1]; exact this
  · rw [h1]; exact h.stb.grown hg (fun e => h.ne_bg (Option.some.inj e).symm)
  · rw [h2]; exact World.ownsRow.kept h.cch hg (.inr (fun e => h.ne_bc e.symm))
  · rw [h2]
    obtain ⟨D, hD, hN⟩ := h.nw
    exact ⟨D, hD.kept hg (fun e => h.ne_bm (Option.some.inj e).symm), hN⟩
end
end Go.Proofs.YtiddbdjcdoiloaaDoor

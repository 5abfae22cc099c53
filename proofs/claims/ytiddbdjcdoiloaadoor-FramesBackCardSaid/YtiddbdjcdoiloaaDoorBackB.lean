/- The law FramesBack: it is true. Conditions: the table of half bytes, a row of changes, numbers of their kinds. -/
import Derived.Test.YtiddbdjcdoiloaaDoorLawOpens
namespace Go.Proofs.YtiddbdjcdoiloaaDoor
open Go.RowKit Fm

theorem Blk.tne {w : World} {b c : Nat} {cs cs' : Array Value} {t u : TypeId} (h : Blk w b cs t) (h' : Blk w c cs' u) (hn : t ≠ u) : b ≠ c := fun e => by
  subst e
  have e1 : some (Obj.cells cs t) = some (Obj.cells cs' u) := Eq.trans (Eq.symm h) h'
  injection e1 with e1
  injection e1 with _ e2
  exact hn e2
/-- What a world of the law holds: the argument's box, the sector, the places. -/
structure BW (w0 W : World) (cs : Array Value) (g pb : Nat) (x : Dv.Sec) (at' : Int) (a : Nat) : Prop where
  ow : OW w0 W cs g x
  pl : Blk W pb #[.int .i64 at', .int .i64 (a : Int)] 49
section
variable {w0 W W' : World} {cs cs' cs2 : Array Value} {g pb g7 : Nat} {x : Dv.Sec} {at' : Int} {a : Nat}
theorem BW.below (h : BW w0 W cs g pb x at' a) (hb : Below W.heap.size W W') : BW w0 W' cs g pb x at' a := ⟨h.ow.below hb, h.pl.below hb h.pl.lt⟩
theorem BW.row {t : TypeId} (h : BW w0 W cs g pb x at' a) (hg : Blk W g7 cs2 t) (h1 : 44 ≠ t) (h2 : 38 ≠ t) (h3 : 49 ≠ t) (hl : w0.heap.size ≤ g7) : BW w0 (W.setRow g7 cs') cs g pb x at' a := by
  have hgr := grown_setRow (w := W) (g := g7) cs'
  exact ⟨⟨h.ow.box.grown hgr (fun e => h.ow.box.tne hg h1 (Option.some.inj e)), h.ow.sec.grown hgr (fun e => h.ow.sec.tne hg h2 (Option.some.inj e)), below_grown h.ow.bel hgr h.ow.bel.size hl⟩, h.pl.grown hgr (fun e => h.pl.tne hg h3 (Option.some.inj e))⟩
theorem BW.rowS (h : BW w0 W cs g pb x at' a) (hg : Blk W g7 cs2 38) (hn : g7 ≠ g) (hl : w0.heap.size ≤ g7) : BW w0 (W.setRow g7 cs') cs g pb x at' a := by
  have hgr := grown_setRow (w := W) (g := g7) cs'
  exact ⟨⟨h.ow.box.grown hgr (fun e => h.ow.box.tne hg (by decide) (Option.some.inj e)), h.ow.sec.grown hgr (fun e => hn (Option.some.inj e).symm), below_grown h.ow.bel hgr h.ow.bel.size hl⟩, h.pl.grown hgr (fun e => h.pl.tne hg (by decide) (Option.some.inj e))⟩
end
/-- Seal of what Open returned is the sector. -/
theorem back_seal {p g1 g2 : Int} {g3 : ByteArray} {x : Dv.Sec} (h : opE p x.1 = 0) (hg : frV (opF p x.1) = .agg #[.int .i64 g1, .int .u32 g2, .string g3]) (W : World) (hW : TB W) :
    Calls Tryd.prog 23 #[.int .i64 p, .int .i64 g1, .int .u32 g2, .string g3] W fun e w' => e = .returned (.tuple #[.agg (secC x).toArray, .int .i64 0]) ∧ Below W.heap.size W w' := by
  obtain ⟨h1, h2, _, _, h3, h4⟩ := opE_zero h
  have hok := formed_ok x.2 h3
  unfold opF at hg
  rw [if_pos h] at hg
  unfold frV at hg
  simp only [Value.agg.injEq, Array.mk.injEq, List.cons.injEq, Value.int.injEq, Value.string.injEq, true_and, and_true] at hg
  obtain ⟨rfl, rfl, rfl⟩ := hg
  have hse : seE p ((frOf x.1).kind : Int) (frOf x.1).data.length = 0 := by unfold seE; rw [if_neg (by have := hok.1; have := hok.2; omega), if_neg (by have := hok.4; omega)]
  have hs := seal_any W p ((frOf x.1).kind : Int) (frOf x.1).seq ⟨(frOf x.1).data.toArray⟩ hW
  have hd : (⟨(frOf x.1).data.toArray⟩ : ByteArray).data.toList = (frOf x.1).data := by simp
  rw [hd, hse] at hs
  have hx : sealR p ((frOf x.1).kind : Int) (frOf x.1).seq (frOf x.1).data = x := by
    apply Subtype.ext
    rw [sealR_ok hse, Int.toNat_natCast, show p.toNat = placeOf x.1 by omega]
    exact h3.2.2.2
  rw [hx] at hs
  exact hs
end Go.Proofs.YtiddbdjcdoiloaaDoor

/- The contract of Seal of package frames. Conditions: the table of half bytes, numbers of 32 bits. -/
import Derived.Test.YtiddbdjcdoiloaaDoorParts
import Derived.Test.YtiddbdjcdoiloaaDoorFs
import Derived.Test.YtiddbdjcdoiloaaDoorEachC
import Derived.Test.YtiddbdjcdoiloaaDoorRead
import Derived.Lib.LazyBuf
namespace Go.Proofs.YtiddbdjcdoiloaaDoor
open Go.RowKit Fm

theorem isPlace_any (w : World) (n : Int) :
    Calls Tryd.prog 48 #[.int .i64 n] w fun e w' => e = .returned (.bool (decide (0 ≤ n ∧ n < 256))) ∧ w = w' := by
  by_cases h1 : 0 ≤ n
  · by_cases h2 : n < 256
    · rw [decide_eq_true ⟨h1, h2⟩]
      go_enter Tryd.func48, Tryd.ntmps48
      go_wp2_with fail
      go_ret
      exact ⟨rfl, rfl⟩
    · rw [decide_eq_false (fun h => h2 h.2)]
      go_enter Tryd.func48, Tryd.ntmps48
      go_wp2_with fail
      go_ret
      exact ⟨rfl, rfl⟩
  · rw [decide_eq_false (fun h => h1 h.1)]
    go_enter Tryd.func48, Tryd.ntmps48
    go_wp2_with fail
    go_ret
    exact ⟨rfl, rfl⟩
theorem isKind_any (w : World) (n : Int) :
    Calls Tryd.prog 49 #[.int .i64 n] w fun e w' => e = .returned (.bool (decide (1 ≤ n ∧ n ≤ 255))) ∧ w = w' := by
  by_cases h1 : 1 ≤ n
  · by_cases h2 : n ≤ 255
    · rw [decide_eq_true ⟨h1, h2⟩]
      go_enter Tryd.func49, Tryd.ntmps49
      go_wp2_with fail
      go_ret
      exact ⟨rfl, rfl⟩
    · rw [decide_eq_false (fun h => h2 h.2)]
      go_enter Tryd.func49, Tryd.ntmps49
      go_wp2_with fail
      go_ret
      exact ⟨rfl, rfl⟩
  · rw [decide_eq_false (fun h => h1 h.1)]
    go_enter Tryd.func49, Tryd.ntmps49
    go_wp2_with fail
    go_ret
    exact ⟨rfl, rfl⟩
theorem crcM_any (w : World) (b p0 p1 p2 p3 p4 p5 : Nat) (l : List UInt8) (hT : TB w) (hB : ByB w b l) (hl : l.length = 128) :
    Calls Tryd.prog 51 #[.agg (partC b p0 p1 p2 p3 p4 p5)] w fun e w' => e = .returned (.int .u32 ((Cm.crc (l.take 124) : Nat) : Int)) ∧ Below w.heap.size w w' := by
  have HB0 : Hid (Below w.heap.size w (w.alloc (.cells (partC b p0 p1 p2 p3 p4 p5) 92))) := (Below.refl _ _).alloc (Nat.le_refl _) _
  have hc := (Blk.new w (partC b p0 p1 p2 p3 p4 p5) 92).cell 13 rfl
  have hB1 : ByB (w.alloc (.cells (partC b p0 p1 p2 p3 p4 p5) 92)) b l := Blk.below hB HB0.out (Blk.lt hB)
  have hs : sub l 0 124 = l.take 124 := by simp [sub]
  have HC := Lib.hid (crc_any _ _ _ (hT.below HB0.out hT.lt) (hB1.sl 0 124 124 (by omega) (by omega)) (by rw [sub_len _ _ _ (by omega)]; omega))
  rw [hs] at HC
  have hp : (Value.agg (partC b p0 p1 p2 p3 p4 p5)).cells = partC b p0 p1 p2 p3 p4 p5 := rfl
  clear hB1 hT hB hs
  go_enter Tryd.func51, Tryd.ntmps51
  go_wp2_with fail
  refine HC.out.mono ?_
  rintro e w1 ⟨rfl, hb⟩
  have HB1 : Hid (Below w.heap.size w w1) := HB0.out.trans (hb.mono HB0.out.size)
  clear hb
  go_wp2_with fail
  go_ret
  exact ⟨rfl, HB1.out⟩
theorem secC_zero : (secC Dv.zeroS).toArray = (z0.map encB).toArray := rfl
theorem ByB.type_ne {w : World} {b p : Nat} {l : List UInt8} {cs : Array Value} {t : TypeId} (h : ByB w b l) (hp : Blk w p cs t) (ht : t ≠ 38) : p ≠ b := fun e => by
  subst e
  have := Option.some.inj (hp.symm.trans h)
  injection this with _ h2; exact ht h2
/-- What a seal in the making stands on: the table, the sector, its parts, the cell of the result. -/
structure SP (w0 w : World) (r b q p0 p1 p2 p3 p4 p5 : Nat) (l : List UInt8) : Prop where
  tb : TB w
  sec : ByB w b l
  par : Blk w q (partC b p0 p1 p2 p3 p4 p5) 92
  pat : PAt w b p0 p1 p2 p3 p4 p5
  res : Blk w r (secC Dv.zeroS).toArray 38
  bel : Below w0.heap.size w0 w
  rb : r ≠ b
  lo : w0.heap.size ≤ b
  b0 : 0 < b
section
variable {w0 w w' : World} {r b q p0 p1 p2 p3 p4 p5 : Nat} {l l' : List UInt8}
theorem SP.below (h : SP w0 w r b q p0 p1 p2 p3 p4 p5 l) (hb : Below w.heap.size w w') : SP w0 w' r b q p0 p1 p2 p3 p4 p5 l :=
  ⟨h.tb.below hb h.tb.lt, Blk.below h.sec hb (Blk.lt h.sec), h.par.below hb h.par.lt, ⟨h.pat.c0.below hb h.pat.c0.lt, h.pat.c1.below hb h.pat.c1.lt, h.pat.c2.below hb h.pat.c2.lt, h.pat.c3.below hb h.pat.c3.lt, h.pat.c4.below hb h.pat.c4.lt, h.pat.c5.below hb h.pat.c5.lt⟩, h.res.below hb h.res.lt, h.bel.trans (hb.mono h.bel.size), h.rb, h.lo, h.b0⟩
theorem SP.grown (h : SP w0 w r b q p0 p1 p2 p3 p4 p5 l) (hs : ByB w' b l') (hg : w.grownBy w' (some b)) : SP w0 w' r b q p0 p1 p2 p3 p4 p5 l' := by
  have go : ∀ {p : Nat} {cs : Array Value} {t : TypeId}, Blk w p cs t → t ≠ 38 → Blk w' p cs t := fun {p cs t} hp ht => hp.grown hg (fun e => h.sec.type_ne hp ht (Option.some.inj e))
  exact ⟨h.tb.grown hg h.b0, hs, go h.par (by decide), ⟨go h.pat.c0 (by decide), go h.pat.c1 (by decide), go h.pat.c2 (by decide), go h.pat.c3 (by decide), go h.pat.c4 (by decide), go h.pat.c5 (by decide)⟩, h.res.grown hg (fun e => h.rb (Option.some.inj e)), below_grown h.bel hg h.bel.size h.lo, h.rb, h.lo, h.b0⟩
theorem SP.write (h : SP w0 w r b q p0 p1 p2 p3 p4 p5 l) (hl : l.length = 128) (p o k n : Nat) (hp : Blk w p #[.slice (some ⟨b, o, none⟩) k k] 22) (hk : o + k ≤ 128) (hk4 : k ≤ 4) :
    Calls Tryd.prog 84 #[.int .u32 (n : Int), .pointer (some ⟨p, 0, none⟩)] w fun e w' => e = .returned (.tuple #[]) ∧ SP w0 w' r b q p0 p1 p2 p3 p4 p5 (splice l o (le n k)) := by
  refine (write_any w p b o k k n l (hp.cell 0 rfl) (h.sec.type_ne hp (by decide)) h.sec (by omega) hk4).mono ?_
  rintro e w' ⟨rfl, hs, hg⟩
  exact ⟨rfl, h.grown hs hg⟩
theorem grown_setCells' (w : World) (b o : Nat) (vs : List Value) : w.grownBy (w.setCells b o vs) (some b) := grown_setCells b vs o w
theorem ByB.setCells (b : Nat) : ∀ (y : List UInt8) (o : Nat) (w : World) (l : List UInt8), ByB w b l → o + y.length ≤ l.length → ByB (w.setCells b o (y.map encB)) b (splice l o y)
  | [], o, w, l, h, _ => by rw [splice_nil]; exact h
  | c :: y, o, w, l, h, hl => by
    rw [List.length_cons] at hl
    have h1 := ByB.setCells b y (o + 1) _ _ (h.set o c) (by rw [List.length_set]; omega)
    have e : splice (l.set o c) (o + 1) y = splice l o (c :: y) := by
      rw [set_splice l o c (by omega)]
      unfold splice
      have h1 : ((l.take o ++ [c] ++ l.drop (o + [c].length)).take (o + 1)) = l.take o ++ [c] := by
        rw [List.take_append_of_le_length (by simp; omega), List.take_of_length_le (by simp; omega)]
      have h2 : (l.take o ++ [c] ++ l.drop (o + [c].length)).drop (o + 1 + y.length) = l.drop (o + (c :: y).length) := by
        have e0 : (l.take o ++ [c]).length = o + 1 := by simp; omega
        rw [List.drop_append, e0, List.drop_of_length_le (by rw [e0]; omega), List.nil_append, List.drop_drop]
        congr 1
        simp; omega
      rw [h1, h2]
      simp
    rw [← e]
    exact h1
end
section
variable {w : World} {b q p0 p1 p2 p3 p4 p5 : Nat}
theorem par_w0 (h : Blk w q (partC b p0 p1 p2 p3 p4 p5) 92) : w.cell? ⟨q, 0, none⟩ = some (.func (.func 84) #[] #[.pointer (some ⟨p0, 0, none⟩)]) := h.cell 0 rfl
theorem par_r0 (h : Blk w q (partC b p0 p1 p2 p3 p4 p5) 92) : w.cell? ⟨q, 1, none⟩ = some (.func (.func 85) #[] #[.pointer (some ⟨p0, 0, none⟩)]) := h.cell 1 rfl
theorem par_w1 (h : Blk w q (partC b p0 p1 p2 p3 p4 p5) 92) : w.cell? ⟨q, 2, none⟩ = some (.func (.func 84) #[] #[.pointer (some ⟨p1, 0, none⟩)]) := h.cell 2 rfl
theorem par_r1 (h : Blk w q (partC b p0 p1 p2 p3 p4 p5) 92) : w.cell? ⟨q, 3, none⟩ = some (.func (.func 85) #[] #[.pointer (some ⟨p1, 0, none⟩)]) := h.cell 3 rfl
theorem par_w2 (h : Blk w q (partC b p0 p1 p2 p3 p4 p5) 92) : w.cell? ⟨q, 4, none⟩ = some (.func (.func 84) #[] #[.pointer (some ⟨p2, 0, none⟩)]) := h.cell 4 rfl
theorem par_r2 (h : Blk w q (partC b p0 p1 p2 p3 p4 p5) 92) : w.cell? ⟨q, 5, none⟩ = some (.func (.func 85) #[] #[.pointer (some ⟨p2, 0, none⟩)]) := h.cell 5 rfl
theorem par_w3 (h : Blk w q (partC b p0 p1 p2 p3 p4 p5) 92) : w.cell? ⟨q, 6, none⟩ = some (.func (.func 84) #[] #[.pointer (some ⟨p3, 0, none⟩)]) := h.cell 6 rfl
theorem par_r3 (h : Blk w q (partC b p0 p1 p2 p3 p4 p5) 92) : w.cell? ⟨q, 7, none⟩ = some (.func (.func 85) #[] #[.pointer (some ⟨p3, 0, none⟩)]) := h.cell 7 rfl
theorem par_w4 (h : Blk w q (partC b p0 p1 p2 p3 p4 p5) 92) : w.cell? ⟨q, 8, none⟩ = some (.func (.func 84) #[] #[.pointer (some ⟨p4, 0, none⟩)]) := h.cell 8 rfl
theorem par_r4 (h : Blk w q (partC b p0 p1 p2 p3 p4 p5) 92) : w.cell? ⟨q, 9, none⟩ = some (.func (.func 85) #[] #[.pointer (some ⟨p4, 0, none⟩)]) := h.cell 9 rfl
theorem par_w5 (h : Blk w q (partC b p0 p1 p2 p3 p4 p5) 92) : w.cell? ⟨q, 10, none⟩ = some (.func (.func 84) #[] #[.pointer (some ⟨p5, 0, none⟩)]) := h.cell 10 rfl
theorem par_r5 (h : Blk w q (partC b p0 p1 p2 p3 p4 p5) 92) : w.cell? ⟨q, 11, none⟩ = some (.func (.func 85) #[] #[.pointer (some ⟨p5, 0, none⟩)]) := h.cell 11 rfl
theorem par_d (h : Blk w q (partC b p0 p1 p2 p3 p4 p5) 92) : w.cell? ⟨q, 12, none⟩ = some (.slice (some ⟨b, 8, none⟩) 112 112) := h.cell 12 rfl
end
/-- The sector that Seal hands back. -/
def sealS (at' kind : Int) (seq : Nat) (data : List UInt8) (h : data.length ≤ 112) : Dv.Sec := ⟨sealL at'.toNat ⟨kind.toNat, seq, data⟩, sealL_len _ _ h⟩
def sealR (at' kind : Int) (seq : Nat) (data : List UInt8) : Dv.Sec := if h : seE at' kind data.length = 0 then sealS at' kind seq data (by unfold seE at h; split at h; omega; split at h; omega; omega) else Dv.zeroS
end Go.Proofs.YtiddbdjcdoiloaaDoor

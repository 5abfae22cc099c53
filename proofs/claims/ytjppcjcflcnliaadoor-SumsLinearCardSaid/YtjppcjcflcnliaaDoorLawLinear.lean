/- The walk of SumsLinear: it returns true. Conditions: the table of half bytes, slices that hold the bytes. -/
import Derived.Test.YtjppcjcflcnliaaDoorLawParts
import Derived.Test.YtjppcjcflcnliaaDoorMath6
import Derived.Deep.DeepCutAuto
import Derived.Deep.RegionHeldLaw
namespace Go.Proofs.YtjppcjcflcnliaaDoor
open Go.RowKit

/-- Three rows of bytes of the call's own. -/
structure Trip (w W : World) (gx gy gz n : Nat) (lx ly lz : List UInt8) : Prop where
  x : OwnB W w.heap.size gx n n lx
  y : OwnB W w.heap.size gy n n ly
  z : OwnB W w.heap.size gz n n lz
  xy : gx ≠ gy
  xz : gx ≠ gz
  yz : gy ≠ gz
  bl : Below w.heap.size w W
section
variable {w W : World} {gx gy gz n : Nat} {lx ly lz : List UInt8}
theorem Trip.drew (h : Trip w W gx gy gz n lx ly lz) : Trip w W.drew gx gy gz n lx ly lz := ⟨h.x.drewN 1, h.y.drewN 1, h.z.drewN 1, h.xy, h.xz, h.yz, h.bl.drew⟩
theorem Trip.next {W' : World} (h : Trip w W gx gy gz n lx ly lz) (hb : Below W.heap.size W W') : Trip w W' gx gy gz n lx ly lz := ⟨h.x.below hb, h.y.below hb, h.z.below hb, h.xy, h.xz, h.yz, h.bl.trans (hb.mono h.bl.size)⟩
theorem Trip.set_x (h : Trip w W gx gy gz n lx ly lz) (i : Nat) (c : UInt8) : Trip w (W.setCell ⟨gx, i, none⟩ (encB c)) gx gy gz n (lx.set i c) ly lz :=
  ⟨h.x.set i c, h.y.kept (grown_setCell _ _ _ _) (by have := h.xy; simp; omega), h.z.kept (grown_setCell _ _ _ _) (by have := h.xz; simp; omega), h.xy, h.xz, h.yz, h.bl.setCell h.x.lt.1 _⟩
theorem Trip.set_y (h : Trip w W gx gy gz n lx ly lz) (i : Nat) (c : UInt8) : Trip w (W.setCell ⟨gy, i, none⟩ (encB c)) gx gy gz n lx (ly.set i c) lz :=
  ⟨h.x.kept (grown_setCell _ _ _ _) (by have := h.xy; simp; omega), h.y.set i c, h.z.kept (grown_setCell _ _ _ _) (by have := h.yz; simp; omega), h.xy, h.xz, h.yz, h.bl.setCell h.y.lt.1 _⟩
theorem Trip.set_z (h : Trip w W gx gy gz n lx ly lz) (i : Nat) (c : UInt8) : Trip w (W.setCell ⟨gz, i, none⟩ (encB c)) gx gy gz n lx ly (lz.set i c) :=
  ⟨h.x.kept (grown_setCell _ _ _ _) (by have := h.xz; simp; omega), h.y.kept (grown_setCell _ _ _ _) (by have := h.yz; simp; omega), h.z.set i c, h.xy, h.xz, h.yz, h.bl.setCell h.z.lt.1 _⟩
end
theorem own_zero (W : World) (base n : Nat) (hn : n ≤ 500) (hb : base ≤ W.heap.size) : OwnB (W.alloc (.cells (madeCells #[.int .u8 0] n) 5)) base W.heap.size n n (List.replicate n 0) := by
  refine ⟨by simp, ?_⟩
  have e : (List.replicate n (0 : UInt8)).map encB = List.replicate n (Value.int .u8 0) := by simp [encB]
  rw [e, ← made_u8]
  have hs : (madeCells #[Value.int .u8 0] n).size = n := by rw [← Array.length_toList, made_u8, List.length_replicate]
  exact ⟨by rw [Array.length_toList, hs, Nat.mul_one], .inr ⟨W.heap.size, n, _, rfl, hb, heap_alloc_new W _, Nat.le_refl _, by unfold maxLen; omega, by rw [hs, Nat.mul_one], by rw [Nat.mul_one, List.take_of_length_le (by rw [Array.length_toList, hs]; exact Nat.le_refl _)]⟩⟩
theorem own_one (W : World) (base : Nat) (c : UInt8) (hb : base ≤ W.heap.size) : OwnB (W.alloc (.cells #[encB c] 5)) base W.heap.size 1 1 [c] :=
  ⟨rfl, rfl, .inr ⟨W.heap.size, 1, _, rfl, hb, heap_alloc_new W _, Nat.le_refl _, by unfold maxLen; omega, rfl, rfl⟩⟩
theorem keep_alloc {V W : World} {r o : Nat} {x : Value} (hr : r < V.heap.size) (hc : V.cell? ⟨r, o, none⟩ = some x) (h : W.cell? ⟨r, o, none⟩ = some x ∧ Below V.heap.size V W) (ob : Obj) :
    (W.alloc ob).cell? ⟨r, o, none⟩ = some x ∧ Below V.heap.size V (W.alloc ob) :=
  have b := h.2.alloc h.2.size ob
  ⟨(b.cell (p := ⟨r, o, none⟩) hr).trans hc, b⟩
theorem own_low {w : World} {base base' size n : Nat} {e : TypeId} {v : Value} {xs : List Value} (h : w.ownsRow base e size v n xs) (hb : base' ≤ base) : w.ownsRow base' e size v n xs :=
  ⟨h.1, h.2.imp id fun ⟨g, cap, cur, a, b, c⟩ => ⟨g, cap, cur, a, Nat.le_trans hb b, c⟩⟩
theorem at_world {P : Program} {o : Oper} {a : Act} {w : World} {K : Act → World → Prop} {Q : Exit → Act → World → Prop} (w0 : World) (_ : w0 = w) (h : o.wp P a w K Q) : o.wp P a w K Q := h
structure Made (w W : World) (n : Nat) : Prop where
  a : OwnB W w.heap.size w.heap.size n n (List.replicate n 0)
  b : OwnB W w.heap.size (w.heap.size + 1) n n (List.replicate n 0)
  c : OwnB W w.heap.size (w.heap.size + 1 + 1) n n (List.replicate n 0)
  bl : Below w.heap.size w W
theorem made3 (w : World) (n : Nat) (hn : n ≤ 500) : Made w ((((w.alloc (.cells (madeCells #[.int .u8 0] n) 5)).alloc (.cells (madeCells #[.int .u8 0] n) 5)).alloc (.cells (madeCells #[.int .u8 0] n) 5)).drew) n := by
  obtain ⟨o, ho⟩ : ∃ o, o = Obj.cells (madeCells #[.int .u8 0] n) 5 := ⟨_, rfl⟩
  have z := fun W => own_zero W w.heap.size n hn
  rw [← ho] at z ⊢
  have s1 : (w.alloc o).heap.size = w.heap.size + 1 := by simp
  have s2 : ((w.alloc o).alloc o).heap.size = w.heap.size + 1 + 1 := by simp
  have z1 := z w (Nat.le_refl _)
  have z2 := z (w.alloc o) (by omega)
  have z3 := z ((w.alloc o).alloc o) (by omega)
  rw [s1] at z2
  rw [s2] at z3
  have b2 := (Below.refl (w.alloc o).heap.size (w.alloc o)).alloc (Nat.le_refl _) o
  have b3 := (Below.refl ((w.alloc o).alloc o).heap.size ((w.alloc o).alloc o)).alloc (Nat.le_refl _) o
  exact ⟨((z1.below b2).below b3).drewN 1, (z2.below b3).drewN 1, z3.drewN 1, ((((Below.refl _ _).alloc (Nat.le_refl _) _).alloc (by omega) _).alloc (by omega) _).drew⟩
/-- What the tail keeps of each world. -/
structure Six (w : World) (va vb vc : Value) (a b c : List UInt8) (W : World) : Prop where
  tb : TB W
  a : SL encB W W.heap.size va a
  b : SL encB W W.heap.size vb b
  c : SL encB W W.heap.size vc c
  bl : Below w.heap.size w W
theorem Six.next {w W W' : World} {va vb vc : Value} {a b c : List UInt8} (h : Six w va vb vc a b c W) (hb : Below W.heap.size W W') : Six w va vb vc a b c W' :=
  ⟨h.tb.below hb h.tb.lt, h.a.next hb, h.b.next hb, h.c.next hb, h.bl.trans (hb.mono h.bl.size)⟩
theorem SL.cellAt {W : World} {lim r o n cp : Nat} {l : List UInt8} (h : SL encB W lim (.slice (some ⟨r, o, none⟩) n cp) l) (i : Nat) (hi : i < l.length) : W.cell? ⟨r, o + i, none⟩ = some (encB l[i]) := by
  obtain ⟨b, off, e, _, hc⟩ := h.at (by omega)
  cases e
  exact hc i hi
/-- And the copy besides. -/
structure Sev (w : World) (va vb vc vo : Value) (a b c one : List UInt8) (W : World) : Prop where
  six : Six w va vb vc a b c W
  o : SL encB W W.heap.size vo one
section
variable {w W W' : World} {va vb vc vo : Value} {a b c one : List UInt8}
theorem Sev.next (h : Sev w va vb vc vo a b c one W) (hb : Below W.heap.size W W') : Sev w va vb vc vo a b c one W' := ⟨h.six.next hb, h.o.next hb⟩
theorem Sev.drew (h : Sev w va vb vc vo a b c one W) : Sev w va vb vc vo a b c one W.drew := h.next (Below.refl _ _).drew
theorem Sev.mix_a (h : Sev w va vb vc vo a b c one W) (hy : a.length ≤ 9223372036854775807) : Calls Tryd.prog 31 #[va] W fun e W' => e = .returned (.int .u64 ((Cm.mix a : Nat) : Int)) ∧ Sev w va vb vc vo a b c one W' :=
  (mix_any W _ a h.six.a hy).mono fun _ _ ⟨e, hb⟩ => ⟨e, h.next hb⟩
theorem Sev.mix_o (h : Sev w va vb vc vo a b c one W) (hy : one.length ≤ 9223372036854775807) : Calls Tryd.prog 31 #[vo] W fun e W' => e = .returned (.int .u64 ((Cm.mix one : Nat) : Int)) ∧ Sev w va vb vc vo a b c one W' :=
  (mix_any W _ one h.o hy).mono fun _ _ ⟨e, hb⟩ => ⟨e, h.next hb⟩
theorem Sev.shown (h : Sev w va vb vc vo a b c one W) : Calls Tryd.prog 13 #[] W fun e W' => e = .returned (.bool true) ∧ Sev w va vb vc vo a b c one W' :=
  (shown_any W h.six.tb).mono fun _ _ ⟨e, hb⟩ => ⟨e, h.next hb⟩
theorem Sev.roll (h : Sev w va vb vc vo a b c one W) (m n x y : Nat) (hh : m < 18446744073709551616) (hm : Cm.isMix m) (hn1 : 1 ≤ n) (hn2 : n ≤ 1000000) (ho : x < 256) (hi : y < 256) :
    Calls Tryd.prog 29 #[.int .u64 (m : Int), .int .i64 (n : Int), .int .u8 (x : Int), .int .u8 (y : Int)] W fun e W' => e = .returned (.tuple #[.int .u64 ((rollN m n x y : Nat) : Int), .int .i64 0]) ∧ Sev w va vb vc vo a b c one W' :=
  (roll_ok W m n x y hh hm hn1 hn2 ho hi).mono fun _ _ ⟨e, hb⟩ => ⟨e, h.next hb⟩
end
/-- And the next besides. -/
structure Eig (w : World) (va vb vc vo vn : Value) (a b c one nx : List UInt8) (W : World) : Prop where
  sev : Sev w va vb vc vo a b c one W
  n : SL encB W W.heap.size vn nx
section
variable {w W W' : World} {va vb vc vo vn : Value} {a b c one nx : List UInt8}
theorem Eig.next (h : Eig w va vb vc vo vn a b c one nx W) (hb : Below W.heap.size W W') : Eig w va vb vc vo vn a b c one nx W' := ⟨h.sev.next hb, h.n.next hb⟩
theorem Eig.drew (h : Eig w va vb vc vo vn a b c one nx W) : Eig w va vb vc vo vn a b c one nx W.drew := h.next (Below.refl _ _).drew
theorem Eig.mix_a (h : Eig w va vb vc vo vn a b c one nx W) (hy : a.length ≤ 9223372036854775807) : Calls Tryd.prog 31 #[va] W fun e W' => e = .returned (.int .u64 ((Cm.mix a : Nat) : Int)) ∧ Eig w va vb vc vo vn a b c one nx W' :=
  (mix_any W _ a h.sev.six.a hy).mono fun _ _ ⟨e, hb⟩ => ⟨e, h.next hb⟩
theorem Eig.mix_o (h : Eig w va vb vc vo vn a b c one nx W) (hy : one.length ≤ 9223372036854775807) : Calls Tryd.prog 31 #[vo] W fun e W' => e = .returned (.int .u64 ((Cm.mix one : Nat) : Int)) ∧ Eig w va vb vc vo vn a b c one nx W' :=
  (mix_any W _ one h.sev.o hy).mono fun _ _ ⟨e, hb⟩ => ⟨e, h.next hb⟩
theorem Eig.mix_n (h : Eig w va vb vc vo vn a b c one nx W) (hy : nx.length ≤ 9223372036854775807) : Calls Tryd.prog 31 #[vn] W fun e W' => e = .returned (.int .u64 ((Cm.mix nx : Nat) : Int)) ∧ Eig w va vb vc vo vn a b c one nx W' :=
  (mix_any W _ nx h.n hy).mono fun _ _ ⟨e, hb⟩ => ⟨e, h.next hb⟩
theorem Eig.shown (h : Eig w va vb vc vo vn a b c one nx W) : Calls Tryd.prog 13 #[] W fun e W' => e = .returned (.bool true) ∧ Eig w va vb vc vo vn a b c one nx W' :=
  (shown_any W h.sev.six.tb).mono fun _ _ ⟨e, hb⟩ => ⟨e, h.next hb⟩
end
theorem lin_ne (a : List UInt8) (t : Nat) (d : UInt8) (h : t < a.length) : ((((Cm.mix (a.set t d) : Nat) : Int) != ((Cm.mix a : Nat) : Int)) == (((a[t].toNat : Nat) : Int) != ((d.toNat : Nat) : Int))) = true := by
  by_cases e : d = a[t]
  · subst e
    rw [Cm.set_same a t h]; simp
  · have h1 := Cm.mix_set a t d h e
    have h2 : (((Cm.mix (a.set t d) : Nat) : Int) != ((Cm.mix a : Nat) : Int)) = true := by rw [bne_iff_ne]; omega
    have h3 : (((a[t].toNat : Nat) : Int) != ((d.toNat : Nat) : Int)) = true := by
      rw [bne_iff_ne]
      intro h4
      exact e (UInt8.toNat_inj.1 (by omega))
    rw [h2, h3]; rfl
theorem lin_roll (a : List UInt8) (d : UInt8) (h : 0 < a.length) (h2 : a.length ≤ 500) : rollN (Cm.mix a) a.length a[0].toNat d.toNat = Cm.mix (a.drop 1 ++ [d]) := by
  cases a with
  | nil => simp at h
  | cons x y =>
    unfold rollN
    rw [Cm.mixed_mix]
    show Cm.mval (Cm.roll (Cm.mgo (1, 0) (x :: y)) (y.length + 1) x.toNat d.toNat) = _
    rw [Cm.roll_next x d y (by simp at h2; omega)]; rfl
theorem lin_crc (a b c : List UInt8) : Cm.crc a ^^^ Cm.crc (Cm.fullL a.length (Cm.repF b)) ^^^ Cm.crc (Cm.fullL a.length (Cm.repF c)) = Cm.crc (Cm.fullL a.length (Cm.xor3F a b c)) := by
  have h := Cm.crc_three a.length (fun i => a.getD i 0) (Cm.repF b) (Cm.repF c)
  rw [Cm.full_self] at h
  exact h.symm
set_option maxRecDepth 100000 in
set_option maxHeartbeats 4000000 in
theorem law_linear (w : World) (va vb vc : Value) (a b c : List UInt8) (hT : TB w) (hva : SL encB w w.heap.size va a) (hvb : SL encB w w.heap.size vb b) (hvc : SL encB w w.heap.size vc c) (hya : a.length ≤ 9223372036854775807) (hyb : b.length ≤ 9223372036854775807) (hyc : c.length ≤ 9223372036854775807) :
    Calls Tryd.prog 11 #[va, vb, vc] w fun e w' => e = .returned (.bool true) ∧ Below w.heap.size w w' := by
  obtain ⟨A, ca, rfl⟩ := hva.form
  obtain ⟨B, cb, rfl⟩ := hvb.form
  obtain ⟨C, cc, rfl⟩ := hvc.form
  have HT := Lib.hid hT
  by_cases hbad : ((500 : Int) < (a.length : Int) ∨ ((a.length : Int) == 0) = true ∨ (500 : Int) < (b.length : Int) ∨ ((b.length : Int) == 0) = true ∨ (500 : Int) < (c.length : Int) ∨ ((c.length : Int) == 0) = true)
  · by_cases ka1 : (500 : Int) < (a.length : Int)
    · clear hva hvb hvc hT hbad
      go_enter Tryd.func11, Tryd.ntmps11
      go_wp2_with fail
      refine (shown_any w HT.out).mono ?_
      rintro e w2 ⟨rfl, hB⟩
      have HB := Lib.hid hB
      clear hB
      go_wp2_with fail
      go_ret
      exact ⟨rfl, HB.out⟩
    by_cases ka2 : ((a.length : Int) == 0) = true
    · clear hva hvb hvc hT hbad
      go_enter Tryd.func11, Tryd.ntmps11
      go_wp2_with fail
      refine (shown_any w HT.out).mono ?_
      rintro e w2 ⟨rfl, hB⟩
      have HB := Lib.hid hB
      clear hB
      go_wp2_with fail
      go_ret
      exact ⟨rfl, HB.out⟩
    have ka3 := Bool.eq_false_iff.2 ka2
    by_cases kb1 : (500 : Int) < (b.length : Int)
    · clear hva hvb hvc hT hbad
      go_enter Tryd.func11, Tryd.ntmps11
      go_wp2_with fail
      refine (shown_any w HT.out).mono ?_
      rintro e w2 ⟨rfl, hB⟩
      have HB := Lib.hid hB
      clear hB
      go_wp2_with fail
      go_ret
      exact ⟨rfl, HB.out⟩
    by_cases kb2 : ((b.length : Int) == 0) = true
    · clear hva hvb hvc hT hbad
      go_enter Tryd.func11, Tryd.ntmps11
      go_wp2_with fail
      refine (shown_any w HT.out).mono ?_
      rintro e w2 ⟨rfl, hB⟩
      have HB := Lib.hid hB
      clear hB
      go_wp2_with fail
      go_ret
      exact ⟨rfl, HB.out⟩
    have kb3 := Bool.eq_false_iff.2 kb2
    by_cases kc1 : (500 : Int) < (c.length : Int)
    · clear hva hvb hvc hT hbad
      go_enter Tryd.func11, Tryd.ntmps11
      go_wp2_with fail
      refine (shown_any w HT.out).mono ?_
      rintro e w2 ⟨rfl, hB⟩
      have HB := Lib.hid hB
      clear hB
      go_wp2_with fail
      go_ret
      exact ⟨rfl, HB.out⟩
    by_cases kc2 : ((c.length : Int) == 0) = true
    · clear hva hvb hvc hT hbad
      go_enter Tryd.func11, Tryd.ntmps11
      go_wp2_with fail
      refine (shown_any w HT.out).mono ?_
      rintro e w2 ⟨rfl, hB⟩
      have HB := Lib.hid hB
      clear hB
      go_wp2_with fail
      go_ret
      exact ⟨rfl, HB.out⟩
    have kc3 := Bool.eq_false_iff.2 kc2
    rcases hbad with h | h | h | h | h | h
    · exact absurd h ka1
    · exact absurd h ka2
    · exact absurd h kb1
    · exact absurd h kb2
    · exact absurd h kc1
    · exact absurd h kc2
  have ha1 : ¬ ((500 : Int) < (a.length : Int)) := fun h => hbad (.inl h)
  have ha2 : ((a.length : Int) == 0) = false := Bool.eq_false_iff.2 fun h => hbad (.inr (.inl h))
  have hb1 : ¬ ((500 : Int) < (b.length : Int)) := fun h => hbad (.inr (.inr (.inl h)))
  have hb2 : ((b.length : Int) == 0) = false := Bool.eq_false_iff.2 fun h => hbad (.inr (.inr (.inr (.inl h))))
  have hc1 : ¬ ((500 : Int) < (c.length : Int)) := fun h => hbad (.inr (.inr (.inr (.inr (.inl h)))))
  have hc2 : ((c.length : Int) == 0) = false := Bool.eq_false_iff.2 fun h => hbad (.inr (.inr (.inr (.inr (.inr h)))))
  have ha0 : 0 < a.length := by have := beq_eq_false_iff_ne.1 ha2; omega
  have hb0 : 0 < b.length := by have := beq_eq_false_iff_ne.1 hb2; omega
  have hc0 : 0 < c.length := by have := beq_eq_false_iff_ne.1 hc2; omega
  clear hbad
  have HVA := Lib.hid hva
  have HVB := Lib.hid hvb
  have HVC := Lib.hid hvc
  have hmk := fun W => make_u8 W .i64 a.length (by omega)
  clear hva hvb hvc hT
  go_enter Tryd.func11, Tryd.ntmps11
  go_upto_region 4 with fail
  go_cut [8, 9, 10] (fun s8 s9 s10 wx => ∃ gx gy gz, s8 = .slice (some ⟨gx, 0, none⟩) a.length a.length ∧ s9 = .slice (some ⟨gy, 0, none⟩) a.length a.length ∧ s10 = .slice (some ⟨gz, 0, none⟩) a.length a.length ∧ Trip w wx gx gy gz a.length (List.replicate a.length 0) (List.replicate a.length 0) (List.replicate a.length 0))
  case first =>
    go_region
    all_goals
      go_wp2
      go_meet
      case rel =>
        have M := made3 w a.length (by omega)
        exact ⟨_, _, _, rfl, rfl, rfl, by first | exact M.a | exact M.b | exact M.c, by first | exact M.a | exact M.b | exact M.c, by first | exact M.a | exact M.b | exact M.c, by omega, by omega, by omega, M.bl⟩
  case rest =>
    clear hmk
    obtain ⟨gx, gy, gz, rfl, rfl, rfl, hM⟩ := hcut
    obtain ⟨rb, ob, rfl, hbl, hbc⟩ := HVB.out.at (by omega)
    obtain ⟨rc, oc, rfl, hcl, hcc⟩ := HVC.out.at (by omega)
    obtain ⟨ra, oa, rfl, hal, hac⟩ := HVA.out.at (by omega)
    have HBC := Lib.hid hbc
    have HCC := Lib.hid hcc
    have HAC := Lib.hid hac
    have HM := Lib.hid hM
    have HS0 : Hid (Six w (.slice (some ⟨ra, oa, none⟩) a.length ca) (.slice (some ⟨rb, ob, none⟩) b.length cb) (.slice (some ⟨rc, oc, none⟩) c.length cc) a b c w) := ⟨HT.out, HVA.out, HVB.out, HVC.out, Below.refl _ _⟩
    clear hbc hcc hac hM HVA HVB HVC HT
    have nx := HM.out.x.lt.1
    have ny := HM.out.y.lt.1
    have nz := HM.out.z.lt.1
    go_wp2_with fail
    go_loopw [11] (fun i wr => ∃ k : Nat, k ≤ a.length ∧ i = .int .i64 (k : Int) ∧ Hid (Trip w wr gx gy gz a.length (Cm.fillL a.length (Cm.repF b) k) (Cm.fillL a.length (Cm.repF c) k) (Cm.fillL a.length (Cm.xor3F a b c) k))) (fun i _ => a.length - (intOf i).toNat)
    case atStart => exact ⟨0, by omega, rfl, by rw [Cm.fillL_zero, Cm.fillL_zero, Cm.fillL_zero]; exact HM.out⟩
    case round =>
      clear HM
      obtain ⟨k, hk, rfl, HM⟩ := hrel
      by_cases hlt : k < a.length
      · have hltI : (k : Int) < (a.length : Int) := by omega
        obtain ⟨kb, hkb⟩ : ∃ kb, kb = k % b.length := ⟨_, rfl⟩
        obtain ⟨kc, hkc⟩ : ∃ kc, kc = k % c.length := ⟨_, rfl⟩
        have hkbl : kb < b.length := by rw [hkb]; exact Nat.mod_lt _ (by omega)
        have hkcl : kc < c.length := by rw [hkc]; exact Nat.mod_lt _ (by omega)
        have hkbI : (k : Int) % (b.length : Int) = (kb : Int) := by rw [hkb, Int.natCast_emod]
        have hkcI : (k : Int) % (c.length : Int) = (kc : Int) := by rw [hkc, Int.natCast_emod]
        have hcb := HBC.out kb hkbl
        have hcc := HCC.out kc hkcl
        have hub : b[kb] = Cm.repF b k := by unfold Cm.repF; rw [← hkb, List.getD_eq_getElem?_getD, List.getElem?_eq_getElem hkbl, Option.getD_some]
        have huc : c[kc] = Cm.repF c k := by unfold Cm.repF; rw [← hkc, List.getD_eq_getElem?_getD, List.getElem?_eq_getElem hkcl, Option.getD_some]
        rw [hub] at hcb
        rw [huc] at hcc
        obtain ⟨u, hu⟩ : ∃ u, u = Cm.repF b k := ⟨_, rfl⟩
        obtain ⟨v, hv⟩ : ∃ v, v = Cm.repF c k := ⟨_, rfl⟩
        rw [← hu] at hcb
        rw [← hv] at hcc
        have hcb2 : wr.cell? ⟨rb, ob + kb, none⟩ = some (.int .u8 (u.toNat : Int)) := (HM.out.bl.cell (p := ⟨rb, _, none⟩) hbl).trans hcb
        have hcc2 : wr.cell? ⟨rc, oc + kc, none⟩ = some (.int .u8 (v.toNat : Int)) := (HM.out.bl.cell (p := ⟨rc, _, none⟩) hcl).trans hcc
        have hcx := HM.out.x.cell k (by rw [Cm.fillL_len]; exact hlt)
        have hcy := HM.out.y.cell k (by rw [Cm.fillL_len]; exact hlt)
        rw [Cm.fillL_get, if_neg (by omega)] at hcx hcy
        unfold encB at hcx hcy
        have hfx := HM.out.x.free k
        have hfy := HM.out.y.free k
        have e1 := HM.out.xy
        have e2 : ¬ gy = gx := fun h => e1 h.symm
        have e3 : ¬ rb = gx := by omega
        have e4 : ¬ rb = gy := by omega
        have e5 : ¬ rc = gx := by omega
        have e6 : ¬ rc = gy := by omega
        have HM8 : Hid (Trip w ((wr.setCell ⟨gx, k, none⟩ (.int .u8 (u.toNat : Int))).setCell ⟨gy, k, none⟩ (.int .u8 (v.toNat : Int))).drew gx gy gz a.length (Cm.fillL a.length (Cm.repF b) (k + 1)) (Cm.fillL a.length (Cm.repF c) (k + 1)) (Cm.fillL a.length (Cm.xor3F a b c) k)) := by
          rw [← Cm.fillL_set _ (Cm.repF b), ← Cm.fillL_set _ (Cm.repF c), ← hu, ← hv]
          exact ((HM.out.set_x k u).set_y k v).drew
        have HU := Lib.hid hu
        have HV := Lib.hid hv
        clear hcb hcc hub huc hu hv hkb hkc
        go_wp2_with fail
        go_region
        generalize ((wr.setCell ⟨gx, k, none⟩ (.int .u8 (u.toNat : Int))).setCell ⟨gy, k, none⟩ (.int .u8 (v.toNat : Int))).drew = w8 at HM8 ⊢
        clear hcb2 hcc2 hcx hcy hfx hfy HM
        have hca := (HM8.out.bl.cell (p := ⟨ra, _, none⟩) hal).trans (HAC.out k hlt)
        have hcx := HM8.out.x.cell k (by rw [Cm.fillL_len]; exact hlt)
        have hcy := HM8.out.y.cell k (by rw [Cm.fillL_len]; exact hlt)
        have hcz := HM8.out.z.cell k (by rw [Cm.fillL_len]; exact hlt)
        rw [Cm.fillL_get, if_pos (by omega), ← HU.out] at hcx
        rw [Cm.fillL_get, if_pos (by omega), ← HV.out] at hcy
        rw [Cm.fillL_get, if_neg (by omega)] at hcz
        have hfz := HM8.out.z.free k
        obtain ⟨s, hs⟩ : ∃ s, s = a[k] := ⟨_, rfl⟩
        rw [← hs] at hca
        have hx3 : Cm.xor3F a b c k = s ^^^ u ^^^ v := by
          unfold Cm.xor3F
          rw [← HU.out, ← HV.out, hs, List.getD_eq_getElem?_getD, List.getElem?_eq_getElem hlt, Option.getD_some]
        have hb1' := u8_xor_nat s.toNat u.toNat s.toNat_lt u.toNat_lt
        rw [← UInt8.toNat_xor] at hb1'
        have hb2' := u8_xor_nat (s ^^^ u).toNat v.toNat (s ^^^ u).toNat_lt v.toNat_lt
        rw [← UInt8.toNat_xor, ← hx3] at hb2'
        obtain ⟨q, hq⟩ : ∃ q, q = Cm.xor3F a b c k := ⟨_, rfl⟩
        rw [← hq] at hb2'
        have HM9 : Hid (Trip w (w8.setCell ⟨gz, k, none⟩ (.int .u8 (q.toNat : Int))).drew gx gy gz a.length (Cm.fillL a.length (Cm.repF b) (k + 1)) (Cm.fillL a.length (Cm.repF c) (k + 1)) (Cm.fillL a.length (Cm.xor3F a b c) (k + 1))) := by
          rw [← Cm.fillL_set _ (Cm.xor3F a b c) k, ← hq]
          exact (HM8.out.set_z k q).drew
        unfold encB at hca hcx hcy hcz
        have e7 := HM8.out.xz
        have e8 := HM8.out.yz
        have e9 : ¬ ra = gz := by omega
        obtain ⟨p, hp⟩ : ∃ p, p = (s ^^^ u).toNat := ⟨_, rfl⟩
        rw [← hp] at hb1' hb2'
        obtain ⟨s', hs'⟩ : ∃ s', s' = s.toNat := ⟨_, rfl⟩
        obtain ⟨u', hu'⟩ : ∃ u', u' = u.toNat := ⟨_, rfl⟩
        obtain ⟨v', hv'⟩ : ∃ v', v' = v.toNat := ⟨_, rfl⟩
        rw [← hs'] at hca hb1'
        rw [← hu'] at hcx hb1'
        rw [← hv'] at hcy hb2'
        obtain ⟨q', hq'⟩ : ∃ q', q' = q.toNat := ⟨_, rfl⟩
        rw [← hq'] at hb2' HM9
        clear hs hx3 hq hp hs' hu' hv' hq' HU HV HM8
        go_wp2
        go_region
        all_goals
          go_wp2
          go_roundw
          case rel => exact ⟨k + 1, by omega, by go_num, HM9.out⟩
          case measure => simp [intOf]; omega
      · obtain rfl : k = a.length := by omega
        have hltI : ¬ ((a.length : Int) < (a.length : Int)) := by omega
        rw [Cm.fillL_all, Cm.fillL_all, Cm.fillL_all] at HM
        have HL := Lib.hid (lin_crc a b c)
        have hlx := Cm.fullL_len a.length (Cm.repF b)
        have hly := Cm.fullL_len a.length (Cm.repF c)
        have hlz := Cm.fullL_len a.length (Cm.xor3F a b c)
        obtain ⟨lx, ex⟩ : ∃ lx, lx = Cm.fullL a.length (Cm.repF b) := ⟨_, rfl⟩
        obtain ⟨ly, ey⟩ : ∃ ly, ly = Cm.fullL a.length (Cm.repF c) := ⟨_, rfl⟩
        obtain ⟨lz, ez⟩ : ∃ lz, lz = Cm.fullL a.length (Cm.xor3F a b c) := ⟨_, rfl⟩
        rw [← ex, ← ey, ← ez] at HL HM
        rw [← ex] at hlx
        rw [← ey] at hly
        rw [← ez] at hlz
        have HLX := Lib.hid hlx
        have HLY := Lib.hid hly
        have HLZ := Lib.hid hlz
        have HS : Hid (Six w (.slice (some ⟨ra, oa, none⟩) a.length ca) (.slice (some ⟨rb, ob, none⟩) b.length cb) (.slice (some ⟨rc, oc, none⟩) c.length cc) a b c wr) :=
          ⟨HS0.out.tb.below HM.out.bl HS0.out.tb.lt, HS0.out.a.next HM.out.bl, HS0.out.b.next HM.out.bl, HS0.out.c.next HM.out.bl, HM.out.bl⟩
        clear ex ey ez hlx hly hlz hk HS0
        go_wp2_with fail
        refine (crc_any wr _ lz HS.out.tb HM.out.z.sl (by rw [HLZ.out]; exact hya)).mono ?_
        rintro e w1 ⟨rfl, hb⟩
        have HM1 := Lib.hid (HM.out.next hb)
        have HS1 := Lib.hid (HS.out.next hb)
        clear hb HM HS
        go_wp2_with fail
        refine (crc_any w1 _ a HS1.out.tb HS1.out.a hya).mono ?_
        rintro e w2 ⟨rfl, hb⟩
        have HM2 := Lib.hid (HM1.out.next hb)
        have HS2 := Lib.hid (HS1.out.next hb)
        clear hb HM1 HS1
        go_wp2_with fail
        refine (crc_any w2 _ lx HS2.out.tb HM2.out.x.sl (by rw [HLX.out]; exact hya)).mono ?_
        rintro e w3 ⟨rfl, hb⟩
        have HM3 := Lib.hid (HM2.out.next hb)
        have HS3 := Lib.hid (HS2.out.next hb)
        clear hb HM2 HS2
        go_wp2_with fail
        refine (crc_any w3 _ ly HS3.out.tb HM3.out.y.sl (by rw [HLY.out]; exact hya)).mono ?_
        rintro e w4 ⟨rfl, hb⟩
        have HS4 := Lib.hid (HS3.out.next hb)
        have hx1 := xor32 (Cm.crc a) (Cm.crc lx) (Cm.crc_lt a) (Cm.crc_lt lx)
        have hx2 := xor32 (Cm.crc a ^^^ Cm.crc lx) (Cm.crc ly) (Nat.xor_lt_two_pow (n := 32) (Cm.crc_lt a) (Cm.crc_lt lx)) (Cm.crc_lt ly)
        rw [HL.out] at hx2
        obtain ⟨x1, hx1e⟩ : ∃ x1, x1 = Cm.crc a ^^^ Cm.crc lx := ⟨_, rfl⟩
        rw [← hx1e] at hx1 hx2
        have hself : (((Cm.crc lz : Nat) : Int) != ((Cm.crc lz : Nat) : Int)) = false := by simp
        have hN1 := own_new w4 5
        have hB1 : Below w4.heap.size w4 (w4.alloc (.cells #[] 5)) := (Below.refl _ _).alloc (Nat.le_refl _) _
        have HS5 := Lib.hid (HS4.out.next hB1)
        have HN1 := Lib.hid hN1
        have HB1 := Lib.hid hB1
        clear hb HM3 HS3 hx1e hN1 hB1
        obtain ⟨b0, hb0e⟩ : ∃ b0, b0 = b[0].toNat := ⟨_, rfl⟩
        obtain ⟨t, ht⟩ : ∃ t, t = b0 % a.length := ⟨_, rfl⟩
        have hb8 : b0 < 256 := by rw [hb0e]; exact b[0].toNat_lt
        have htl : t < a.length := by rw [ht]; exact Nat.mod_lt _ ha0
        have htI : (b0 : Int) % (a.length : Int) = (t : Int) := by rw [ht, Int.natCast_emod]
        obtain ⟨c0, hc0e⟩ : ∃ c0, c0 = c[0].toNat := ⟨_, rfl⟩
        have hc8 : c0 < 256 := by rw [hc0e]; exact c[0].toNat_lt
        have HC0 := Lib.hid hc0e
        have HB0 := Lib.hid hb0e
        clear hb0e hc0e ht
        go_wp2_with
          (at_builtin
           refine wpList_append_sl rfl _ _ rfl w4.heap.size _ _ 0 [] rfl HN1.out _ a rfl HS5.out.a (by omega) (by simp) ?_
           intro vo w6 hown hgrow
           rw [List.nil_append, Nat.zero_add] at hown
           obtain ⟨g, cap, rfl, ho⟩ := OwnB.of_row (by omega) rfl hown
           have hB2 : Below w4.heap.size w4 w6 := HB1.out.grown hgrow (by simp) (fun k hk => by have : w4.heap.size = k := Option.some.inj hk; omega)
           have HS6 := Lib.hid (HS4.out.next hB2)
           have HO := Lib.hid ho
           have HB6 := Lib.hid hB2
           have hcb : w6.cell? ⟨rb, ob, none⟩ = some (.int .u8 (b0 : Int)) := by rw [HB0.out]; exact (HS6.out.bl.cell (p := ⟨rb, _, none⟩) hbl).trans (HBC.out 0 hb0)
           have hcc : w6.cell? ⟨rc, oc, none⟩ = some (.int .u8 (c0 : Int)) := by rw [HC0.out]; exact (HS6.out.bl.cell (p := ⟨rc, _, none⟩) hcl).trans (HCC.out 0 hc0)
           have hco := HO.out.cell t htl
           have hfo := HO.out.free t
           unfold encB at hco
           clear hown hgrow ho hB2)
        have HM1 := Lib.hid (mix_lt a)
        have HM2 := Lib.hid (Cm.mix_isMix a)
        obtain ⟨on, hone⟩ : ∃ on, on = a.set t c[0] := ⟨_, rfl⟩
        have HON := Lib.hid hone
        clear hone
        have HSV : Hid (Sev w (.slice (some ⟨ra, oa, none⟩) a.length ca) (.slice (some ⟨rb, ob, none⟩) b.length cb) (.slice (some ⟨rc, oc, none⟩) c.length cc) (.slice (some ⟨g, 0, none⟩) a.length cap) a b c on (w6.setCell ⟨g, t, none⟩ (.int .u8 (c0 : Int)))) := by
          have hg : w4.heap.size ≤ g := HO.out.lt.1
          have hb7 : Below w4.heap.size w4 (w6.setCell ⟨g, t, none⟩ (.int .u8 (c0 : Int))) := HB6.out.setCell hg _
          have ho := (HO.out.set t c[0]).sl
          rw [← HON.out] at ho
          unfold encB at ho
          rw [← HC0.out] at ho
          exact ⟨HS4.out.next hb7, ho⟩
        clear hcb hcc hco hfo HO HS6 HB6 HN1 HB1 HS5 HS4 hx1 hx2
        generalize w6.setCell ⟨g, t, none⟩ (.int .u8 (c0 : Int)) = w7 at HSV ⊢
        obtain ⟨a0, ha0e⟩ : ∃ a0, a0 = a[0].toNat := ⟨_, rfl⟩
        have ha8 : a0 < 256 := by rw [ha0e]; exact a[0].toNat_lt
        have HA0 := Lib.hid ha0e
        have hca := HSV.out.six.a.cellAt 0 ha0
        have hcc := HSV.out.six.c.cellAt 0 hc0
        unfold encB at hca hcc
        rw [Nat.add_zero, ← ha0e] at hca
        rw [Nat.add_zero, ← HC0.out] at hcc
        have hsv := HSV.out.drew
        clear ha0e
        first | (go_region_held (fun W => W.cell? ⟨ra, oa, none⟩ = some (.int .u8 (a0 : Int)) ∧ W.cell? ⟨rc, oc, none⟩ = some (.int .u8 (c0 : Int)) ∧ Sev w (.slice (some ⟨ra, oa, none⟩) a.length ca) (.slice (some ⟨rb, ob, none⟩) b.length cb) (.slice (some ⟨rc, oc, none⟩) c.length cc) (.slice (some ⟨g, 0, none⟩) a.length cap) a b c on W) (exact ⟨by assumption, by assumption, by assumption⟩)
          (first
          | (go_at_call 31; (with_reducible refine (Sev.mix_a (by assumption) hya).mono ?_); rintro e W' ⟨rfl, hf⟩; have hca' := hf.six.a.cellAt 0 ha0; have hcc' := hf.six.c.cellAt 0 hc0; unfold encB at hca' hcc'; rw [Nat.add_zero, ← HA0.out] at hca'; rw [Nat.add_zero, ← HC0.out] at hcc')
          | (go_at_call 29; (with_reducible refine (Sev.roll (by assumption) _ _ _ _ HM1.out HM2.out (by omega) (by omega) ha8 hc8).mono ?_); rintro e W' ⟨rfl, hf⟩; have hca' := hf.six.a.cellAt 0 ha0; have hcc' := hf.six.c.cellAt 0 hc0; unfold encB at hca' hcc'; rw [Nat.add_zero, ← HA0.out] at hca'; rw [Nat.add_zero, ← HC0.out] at hcc'))) | fail
        have HSW := Lib.hid hf
        have hro := lin_roll a c[0] ha0 (by omega)
        rw [← HA0.out, ← HC0.out] at hro
        obtain ⟨tl, htl'⟩ : ∃ tl, tl = a.drop 1 := ⟨_, rfl⟩
        rw [← htl'] at hro
        obtain ⟨mn, hmn⟩ : ∃ mn, mn = Cm.mix (tl ++ [c[0]]) := ⟨_, rfl⟩
        rw [← hmn] at hro
        rw [hro]
        have HMN := Lib.hid hmn
        have HTL := Lib.hid htl'
        have hll : tl.length = a.length - 1 := by rw [htl', List.length_drop]
        have hlt5 : tl.length ≤ 500 := by omega
        have HLL := Lib.hid hll
        clear hf hca hcc hca' hcc' hsv HSV HM1 HM2 hro hmn htl' hll
        rename World => V
        have hcV := HSW.out.six.c.cellAt 0 hc0
        unfold encB at hcV
        rw [Nat.add_zero, ← HC0.out] at hcV
        have hrV : rc < V.heap.size := by have := HSW.out.six.bl.size; omega
        have hSV : V.drew.cell? ⟨rc, oc, none⟩ = some (.int .u8 (c0 : Int)) ∧ Below V.heap.size V V.drew := ⟨hcV, (Below.refl _ _).drew⟩
        have B1 : Below V.heap.size V (V.alloc (.cells #[] 5)).drew := ((Below.refl _ _).alloc (Nat.le_refl _) _).drew
        have hsz1 : (V.alloc (.cells #[] 5)).heap.size = V.heap.size + 1 := by simp
        have hsz3 : (V.alloc (.cells #[Value.int .u8 (c0 : Int)] 5)).heap.size = V.heap.size + 1 := by simp
        have henc : Value.int .u8 (c0 : Int) = encB c[0] := by unfold encB; rw [HC0.out]
        have B2 : Below V.heap.size V ((V.alloc (.cells #[] 5)).alloc (.cells #[Value.int .u8 (c0 : Int)] 5)).drew := (((Below.refl _ _).alloc (Nat.le_refl _) _).alloc (by omega) _).drew
        have B3 : Below V.heap.size V ((V.alloc (.cells #[Value.int .u8 (c0 : Int)] 5)).alloc (.cells #[] 5)).drew := (((Below.refl _ _).alloc (Nat.le_refl _) _).alloc (by omega) _).drew
        have N1 : (V.alloc (.cells #[] 5)).drew.ownsRow V.heap.size 5 1 (.slice (some ⟨V.heap.size, 0, none⟩) 0 0) 0 [] := own_new V 5
        have N2 : ((V.alloc (.cells #[] 5)).alloc (.cells #[Value.int .u8 (c0 : Int)] 5)).drew.ownsRow V.heap.size 5 1 (.slice (some ⟨V.heap.size, 0, none⟩) 0 0) 0 [] :=
          (own_new V 5).alloc (.cells #[Value.int .u8 (c0 : Int)] 5)
        have N3 : ((V.alloc (.cells #[Value.int .u8 (c0 : Int)] 5)).alloc (.cells #[] 5)).drew.ownsRow V.heap.size 5 1 (.slice (some ⟨V.heap.size + 1, 0, none⟩) 0 0) 0 [] := by
          have h := own_new (V.alloc (.cells #[Value.int .u8 (c0 : Int)] 5)) 5
          rw [hsz3] at h
          exact own_low h (by omega)
        have O2 : OwnB ((V.alloc (.cells #[] 5)).alloc (.cells #[Value.int .u8 (c0 : Int)] 5)).drew V.heap.size (V.heap.size + 1) 1 1 [c[0]] := by
          have h := own_one (V.alloc (.cells #[] 5)) V.heap.size c[0] (by omega)
          rw [hsz1, ← henc] at h
          exact h.drewN 1
        have O3 : OwnB ((V.alloc (.cells #[Value.int .u8 (c0 : Int)] 5)).alloc (.cells #[] 5)).drew V.heap.size V.heap.size 1 1 [c[0]] := by
          have h := own_one V V.heap.size c[0] (Nat.le_refl _)
          rw [← henc] at h
          exact (h.below ((Below.refl _ _).alloc (Nat.le_refl _) (.cells #[] 5))).drewN 1
        have HN1 := Lib.hid N1
        have HN2 := Lib.hid N2
        have HN3 := Lib.hid N3
        have HO2 := Lib.hid O2
        have HO3 := Lib.hid O3
        have HB1 := Lib.hid B1
        have HB2 := Lib.hid B2
        have HB3 := Lib.hid B3
        have HEN := Lib.hid henc
        have hap := HSW.out.six.a.rest (k := 1) ha0
        have hca0 := HSW.out.six.a.cap
        rw [← HTL.out] at hap
        clear N1 N2 N3 O2 O3 B1 B2 B3 hsz1 hsz3 henc hcV
        go_upto_region 16 with fail
        go_cut [0, 16] (fun v0 v wx => ∃ vn, vn = v ∧ v0 = .slice (some ⟨ra, oa, none⟩) a.length ca ∧ SL encB wx wx.heap.size vn (tl ++ [c[0]]) ∧ Sev w (.slice (some ⟨ra, oa, none⟩) a.length ca) (.slice (some ⟨rb, ob, none⟩) b.length cb) (.slice (some ⟨rc, oc, none⟩) c.length cc) (.slice (some ⟨g, 0, none⟩) a.length cap) a b c on wx)
        case first =>
          by_cases hca1 : ca = 1
          · rw [if_pos hca1, hca1] at hap
            have HA := Lib.hid hap
            clear hap
            (go_region_held_law (fun W => W.cell? ⟨rc, oc, none⟩ = some (.int .u8 (c0 : Int)) ∧ Below V.heap.size V W) (first | assumption | exact keep_alloc hrV hSV.1 (by assumption) _)
              ((rw [if_pos (by simp [Region.wanted])]; first
              | (refine at_world ((V.alloc (.cells #[] 5)).drew) (by with_reducible rfl) ?_
                 refine wp_append_sl _ _ rfl V.heap.size _ _ 0 [] rfl HN1.out _ tl rfl (HA.out.next HB1.out) (by omega) (by simp) ?_
                 intro v2 w2 hown hgrow
                 rw [List.nil_append, Nat.zero_add] at hown
                 have hbx : Below V.heap.size V w2 := HB1.out.grown hgrow (by simp) (fun r e => (HN1.out.lt r e).1)
                 have hs2 : w2.cell? ⟨rc, oc, none⟩ = some (.int .u8 (c0 : Int)) ∧ Below V.heap.size V w2 := ⟨(hbx.cell (p := ⟨rc, oc, none⟩) hrV).trans hSV.1, hbx⟩
                 have HSZ := Lib.hid (Nat.le_succ_of_le hbx.size)
                 have HX := Lib.hid (hown.alloc (.cells #[Value.int .u8 (c0 : Int)] 5))
                 have HY : Hid (OwnB (w2.alloc (.cells #[Value.int .u8 (c0 : Int)] 5)) V.heap.size w2.heap.size 1 1 [c[0]]) := by have h := own_one w2 V.heap.size c[0] hbx.size; rw [← HEN.out] at h; exact h
                 have HBX := Lib.hid (hbx.alloc hbx.size (.cells #[Value.int .u8 (c0 : Int)] 5))
                 clear hown hgrow hbx)
              | (refine at_world (((V.alloc (.cells #[] 5)).alloc (.cells #[Value.int .u8 (c0 : Int)] 5)).drew) (by with_reducible rfl) ?_
                 refine wp_append_sl _ _ rfl V.heap.size _ _ 0 [] rfl HN2.out _ tl rfl (HA.out.next HB2.out) (by omega) (by simp; omega) ?_
                 intro v2 w2 hown hgrow
                 rw [List.nil_append, Nat.zero_add] at hown
                 have hbx : Below V.heap.size V w2 := HB2.out.grown hgrow (by simp; omega) (fun r e => (HN2.out.lt r e).1)
                 have hs2 : w2.cell? ⟨rc, oc, none⟩ = some (.int .u8 (c0 : Int)) ∧ Below V.heap.size V w2 := ⟨(hbx.cell (p := ⟨rc, oc, none⟩) hrV).trans hSV.1, hbx⟩
                 have HSZ := Lib.hid hbx.size
                 have HX := Lib.hid hown
                 have HY := Lib.hid (HO2.out.kept hgrow (fun h => by have := Option.some.inj (show some (V.heap.size + 1) = some V.heap.size from h); omega))
                 have HBX := Lib.hid hbx
                 clear hown hgrow hbx)
              | (refine at_world (((V.alloc (.cells #[Value.int .u8 (c0 : Int)] 5)).alloc (.cells #[] 5)).drew) (by with_reducible rfl) ?_
                 refine wp_append_sl _ _ rfl V.heap.size _ _ 0 [] rfl HN3.out _ tl rfl (HA.out.next HB3.out) (by omega) (by simp; omega) ?_
                 intro v2 w2 hown hgrow
                 rw [List.nil_append, Nat.zero_add] at hown
                 have hbx : Below V.heap.size V w2 := HB3.out.grown hgrow (by simp; omega) (fun r e => (HN3.out.lt r e).1)
                 have hs2 : w2.cell? ⟨rc, oc, none⟩ = some (.int .u8 (c0 : Int)) ∧ Below V.heap.size V w2 := ⟨(hbx.cell (p := ⟨rc, oc, none⟩) hrV).trans hSV.1, hbx⟩
                 have HSZ := Lib.hid hbx.size
                 have HX := Lib.hid hown
                 have HY := Lib.hid (HO3.out.kept hgrow (fun h => by have := Option.some.inj (show some V.heap.size = some (V.heap.size + 1) from h); omega))
                 have HBX := Lib.hid hbx
                 clear hown hgrow hbx)
              | (refine wp_append_sl _ _ rfl V.heap.size _ _ tl.length (tl.map encB) rfl HX.out _ [c[0]] rfl HY.out.sl (by simp; omega) (by first | exact HSZ.out | (have := HSZ.out; simp; omega)) ?_
                 intro v3 w3 hown3 hgrow3
                 rw [← List.map_append] at hown3
                 have hb3 : Below V.heap.size V w3 := HBX.out.grown hgrow3 (by first | exact HSZ.out | (have := HSZ.out; simp; omega)) (fun r e => (HX.out.lt r e).1)
                 have hs3 : w3.cell? ⟨rc, oc, none⟩ = some (.int .u8 (c0 : Int)) ∧ Below V.heap.size V w3 := ⟨(hb3.cell (p := ⟨rc, oc, none⟩) hrV).trans hSV.1, hb3⟩
                 have HO9 := Lib.hid (SL.of_own (l := tl ++ [c[0]]) (by simp) hown3)
                 have HSV9 := Lib.hid (HSW.out.next hb3)
                 clear hown3 hgrow3 hb3
                 simp only [List.getElem_toArray, List.getElem_cons_succ, List.getElem_cons_zero]))))
            all_goals
              go_wp2
              go_meet
              case rel => exact ⟨_, rfl, by rw [hca1], HO9.out, HSV9.out⟩
          · rw [if_neg hca1] at hap
            have HA : Hid (SL encB V V.heap.size (.slice (some ⟨ra, oa + 1, none⟩) (a.length - 1) (ca - 1)) tl) := hap
            clear hap
            (go_region_held_law (fun W => W.cell? ⟨rc, oc, none⟩ = some (.int .u8 (c0 : Int)) ∧ Below V.heap.size V W) (first | assumption | exact keep_alloc hrV hSV.1 (by assumption) _)
              ((rw [if_pos (by simp [Region.wanted])]; first
              | (refine at_world ((V.alloc (.cells #[] 5)).drew) (by with_reducible rfl) ?_
                 refine wp_append_sl _ _ rfl V.heap.size _ _ 0 [] rfl HN1.out _ tl rfl (HA.out.next HB1.out) (by omega) (by simp) ?_
                 intro v2 w2 hown hgrow
                 rw [List.nil_append, Nat.zero_add] at hown
                 have hbx : Below V.heap.size V w2 := HB1.out.grown hgrow (by simp) (fun r e => (HN1.out.lt r e).1)
                 have hs2 : w2.cell? ⟨rc, oc, none⟩ = some (.int .u8 (c0 : Int)) ∧ Below V.heap.size V w2 := ⟨(hbx.cell (p := ⟨rc, oc, none⟩) hrV).trans hSV.1, hbx⟩
                 have HSZ := Lib.hid (Nat.le_succ_of_le hbx.size)
                 have HX := Lib.hid (hown.alloc (.cells #[Value.int .u8 (c0 : Int)] 5))
                 have HY : Hid (OwnB (w2.alloc (.cells #[Value.int .u8 (c0 : Int)] 5)) V.heap.size w2.heap.size 1 1 [c[0]]) := by have h := own_one w2 V.heap.size c[0] hbx.size; rw [← HEN.out] at h; exact h
                 have HBX := Lib.hid (hbx.alloc hbx.size (.cells #[Value.int .u8 (c0 : Int)] 5))
                 clear hown hgrow hbx)
              | (refine at_world (((V.alloc (.cells #[] 5)).alloc (.cells #[Value.int .u8 (c0 : Int)] 5)).drew) (by with_reducible rfl) ?_
                 refine wp_append_sl _ _ rfl V.heap.size _ _ 0 [] rfl HN2.out _ tl rfl (HA.out.next HB2.out) (by omega) (by simp; omega) ?_
                 intro v2 w2 hown hgrow
                 rw [List.nil_append, Nat.zero_add] at hown
                 have hbx : Below V.heap.size V w2 := HB2.out.grown hgrow (by simp; omega) (fun r e => (HN2.out.lt r e).1)
                 have hs2 : w2.cell? ⟨rc, oc, none⟩ = some (.int .u8 (c0 : Int)) ∧ Below V.heap.size V w2 := ⟨(hbx.cell (p := ⟨rc, oc, none⟩) hrV).trans hSV.1, hbx⟩
                 have HSZ := Lib.hid hbx.size
                 have HX := Lib.hid hown
                 have HY := Lib.hid (HO2.out.kept hgrow (fun h => by have := Option.some.inj (show some (V.heap.size + 1) = some V.heap.size from h); omega))
                 have HBX := Lib.hid hbx
                 clear hown hgrow hbx)
              | (refine at_world (((V.alloc (.cells #[Value.int .u8 (c0 : Int)] 5)).alloc (.cells #[] 5)).drew) (by with_reducible rfl) ?_
                 refine wp_append_sl _ _ rfl V.heap.size _ _ 0 [] rfl HN3.out _ tl rfl (HA.out.next HB3.out) (by omega) (by simp; omega) ?_
                 intro v2 w2 hown hgrow
                 rw [List.nil_append, Nat.zero_add] at hown
                 have hbx : Below V.heap.size V w2 := HB3.out.grown hgrow (by simp; omega) (fun r e => (HN3.out.lt r e).1)
                 have hs2 : w2.cell? ⟨rc, oc, none⟩ = some (.int .u8 (c0 : Int)) ∧ Below V.heap.size V w2 := ⟨(hbx.cell (p := ⟨rc, oc, none⟩) hrV).trans hSV.1, hbx⟩
                 have HSZ := Lib.hid hbx.size
                 have HX := Lib.hid hown
                 have HY := Lib.hid (HO3.out.kept hgrow (fun h => by have := Option.some.inj (show some V.heap.size = some (V.heap.size + 1) from h); omega))
                 have HBX := Lib.hid hbx
                 clear hown hgrow hbx)
              | (refine wp_append_sl _ _ rfl V.heap.size _ _ tl.length (tl.map encB) rfl HX.out _ [c[0]] rfl HY.out.sl (by simp; omega) (by first | exact HSZ.out | (have := HSZ.out; simp; omega)) ?_
                 intro v3 w3 hown3 hgrow3
                 rw [← List.map_append] at hown3
                 have hb3 : Below V.heap.size V w3 := HBX.out.grown hgrow3 (by first | exact HSZ.out | (have := HSZ.out; simp; omega)) (fun r e => (HX.out.lt r e).1)
                 have hs3 : w3.cell? ⟨rc, oc, none⟩ = some (.int .u8 (c0 : Int)) ∧ Below V.heap.size V w3 := ⟨(hb3.cell (p := ⟨rc, oc, none⟩) hrV).trans hSV.1, hb3⟩
                 have HO9 := Lib.hid (SL.of_own (l := tl ++ [c[0]]) (by simp) hown3)
                 have HSV9 := Lib.hid (HSW.out.next hb3)
                 clear hown3 hgrow3 hb3
                 simp only [List.getElem_toArray, List.getElem_cons_succ, List.getElem_cons_zero]))))
            all_goals
              go_wp2
              go_meet
              case rel => exact ⟨_, rfl, rfl, HO9.out, HSV9.out⟩
        case rest =>
          clear HA0 ha8 hca0 hap HEN HB3 HB2 HB1 HO3 HO2 HN3 HN2 HN1 hSV hrV HSW
          obtain ⟨vn, rfl, rfl, hnx, hsx⟩ := hcut
          have hlo : on.length ≤ 9223372036854775807 := by rw [HON.out, List.length_set]; exact hya
          have hln : (tl ++ [c[0]]).length ≤ 9223372036854775807 := by rw [List.length_append]; simp; omega
          have HLO := Lib.hid hlo
          have HLN := Lib.hid hln
          have hcmp := lin_ne a t c[0] htl
          rw [← HON.out, ← HC0.out] at hcmp
          obtain ⟨at0, hat0⟩ : ∃ at0, at0 = a[t].toNat := ⟨_, rfl⟩
          rw [← hat0] at hcmp
          obtain ⟨mo, hmo⟩ : ∃ mo, mo = Cm.mix on := ⟨_, rfl⟩
          rw [← hmo] at hcmp
          have HMO := Lib.hid hmo
          have HAT := Lib.hid hat0
          have hs1 := int_self mn
          have HE : Hid (Eig w (.slice (some ⟨ra, oa, none⟩) a.length ca) (.slice (some ⟨rb, ob, none⟩) b.length cb) (.slice (some ⟨rc, oc, none⟩) c.length cc) (.slice (some ⟨g, 0, none⟩) a.length cap) vn a b c on (tl ++ [c[0]]) wc) := ⟨hsx, hnx⟩
          have hca := HE.out.sev.six.a.cellAt t htl
          have hcc := HE.out.sev.six.c.cellAt 0 hc0
          unfold encB at hca hcc
          rw [← HAT.out] at hca
          rw [Nat.add_zero, ← HC0.out] at hcc
          have he := HE.out.drew
          clear hlo hln hmo hat0 hsx hnx
          go_wp2_with fail
          first | (go_region_held (fun W => W.cell? ⟨ra, oa + t, none⟩ = some (.int .u8 (at0 : Int)) ∧ W.cell? ⟨rc, oc, none⟩ = some (.int .u8 (c0 : Int)) ∧ Eig w (.slice (some ⟨ra, oa, none⟩) a.length ca) (.slice (some ⟨rb, ob, none⟩) b.length cb) (.slice (some ⟨rc, oc, none⟩) c.length cc) (.slice (some ⟨g, 0, none⟩) a.length cap) vn a b c on (tl ++ [c[0]]) W) (exact ⟨by assumption, by assumption, by assumption⟩)
            (first
            | (go_at_call 31; (with_reducible refine (Eig.mix_o (by assumption) HLO.out).mono ?_); rintro e W' ⟨rfl, hf⟩; have hca' := hf.sev.six.a.cellAt t htl; have hcc' := hf.sev.six.c.cellAt 0 hc0; unfold encB at hca' hcc'; rw [← HAT.out] at hca'; rw [Nat.add_zero, ← HC0.out] at hcc'; rw [← HMO.out])
            | (go_at_call 31; (with_reducible refine (Eig.mix_a (by assumption) hya).mono ?_); rintro e W' ⟨rfl, hf⟩; have hca' := hf.sev.six.a.cellAt t htl; have hcc' := hf.sev.six.c.cellAt 0 hc0; unfold encB at hca' hcc'; rw [← HAT.out] at hca'; rw [Nat.add_zero, ← HC0.out] at hcc')
            | (go_at_call 31; (with_reducible refine (Eig.mix_n (by assumption) HLN.out).mono ?_); rintro e W' ⟨rfl, hf⟩; have hca' := hf.sev.six.a.cellAt t htl; have hcc' := hf.sev.six.c.cellAt 0 hc0; unfold encB at hca' hcc'; rw [← HAT.out] at hca'; rw [Nat.add_zero, ← HC0.out] at hcc'; rw [← HMN.out])
            | (go_at_call 13; (with_reducible refine (Eig.shown (by assumption)).mono ?_); rintro e W' ⟨rfl, hf⟩; have hca' := hf.sev.six.a.cellAt t htl; have hcc' := hf.sev.six.c.cellAt 0 hc0; unfold encB at hca' hcc'; rw [← HAT.out] at hca'; rw [Nat.add_zero, ← HC0.out] at hcc'))) | fail
          all_goals
            have HFIN := Lib.hid (hf.sev.six.bl)
            clear hf
            go_wp2
            go_ret
            exact ⟨rfl, HFIN.out⟩
end Go.Proofs.YtjppcjcflcnliaaDoor

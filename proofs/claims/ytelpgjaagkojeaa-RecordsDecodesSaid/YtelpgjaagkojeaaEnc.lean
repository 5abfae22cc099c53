/- The contracts of Encode and Size of package records. Conditions: a slice whose cells hold the values; at most 10^6 of them. -/
import Derived.Test.YtelpgjaagkojeaaKinds
namespace Go.Proofs.Ytelpgjaagkojeaa
open Go.RowKit

/-- The cells of a value. -/
def VAt (w : World) (lim b o : Nat) (x : Rm.Val) : Prop := ∃ lv, w.cell? ⟨b, o, none⟩ = some (.int .u64 (x.num : Int)) ∧ w.cell? ⟨b, o + 1, none⟩ = some (.string ⟨x.str.toArray⟩) ∧ w.cell? ⟨b, o + 2, none⟩ = some lv ∧ SL enc32 w lim lv x.lst ∧ x.num < 18446744073709551616
theorem VAt.below {w w' : World} {lim B b o : Nat} {x : Rm.Val} (h : VAt w lim b o x) (hb : Below B w w') (hB : b < B) (hl : lim ≤ B) : VAt w' lim b o x := by
  obtain ⟨lv, h0, h1, h2, h3, h4⟩ := h
  exact ⟨lv, (hb.cell (p := ⟨b, _, none⟩) hB).trans h0, (hb.cell (p := ⟨b, _, none⟩) hB).trans h1, (hb.cell (p := ⟨b, _, none⟩) hB).trans h2, h3.below hb hl, h4⟩
theorem VAt.mono {w : World} {lim lim' b o : Nat} {x : Rm.Val} (h : VAt w lim b o x) (hl : lim ≤ lim') : VAt w lim' b o x := by
  obtain ⟨lv, h0, h1, h2, h3, h4⟩ := h
  exact ⟨lv, h0, h1, h2, h3.mono hl, h4⟩
/-- A slice of values. -/
def VL (w : World) (lim : Nat) (v : Value) (l : List Rm.Val) : Prop :=
  (l = [] ∧ ∃ A c, v = .slice A 0 c) ∨ ∃ b off c, v = .slice (some ⟨b, off, none⟩) l.length c ∧ b < lim ∧ ∀ i (h : i < l.length), VAt w lim b (off + i * 3) l[i]
theorem VL.below {w w' : World} {lim B : Nat} {v : Value} {l : List Rm.Val} (h : VL w lim v l) (hb : Below B w w') (hl : lim ≤ B) : VL w' lim v l := by
  rcases h with h | ⟨b, off, c, rfl, hlt, hc⟩
  · exact .inl h
  · exact .inr ⟨b, off, c, rfl, hlt, fun i hi => (hc i hi).below hb (by omega) hl⟩
theorem VL.mono {w : World} {lim lim' : Nat} {v : Value} {l : List Rm.Val} (h : VL w lim v l) (hl : lim ≤ lim') : VL w lim' v l := by
  rcases h with h | ⟨b, off, c, rfl, hlt, hc⟩
  · exact .inl h
  · exact .inr ⟨b, off, c, rfl, by omega, fun i hi => (hc i hi).mono hl⟩
theorem VL.next {w w' : World} {v : Value} {l : List Rm.Val} (h : VL w w.heap.size v l) (hb : Below w.heap.size w w') : VL w' w'.heap.size v l := (h.below hb (Nat.le_refl _)).mono hb.size
theorem VL.form {w : World} {lim : Nat} {v : Value} {l : List Rm.Val} (h : VL w lim v l) : ∃ A c, v = .slice A l.length c := by
  rcases h with ⟨rfl, A, c, rfl⟩ | ⟨b, off, c, rfl, _⟩
  · exact ⟨A, c, rfl⟩
  · exact ⟨_, c, rfl⟩
theorem VL.at {w : World} {lim n c : Nat} {A : Option Addr} {l : List Rm.Val} (h : VL w lim (.slice A n c) l) (hne : 0 < l.length) : ∃ b off, A = some ⟨b, off, none⟩ ∧ b < lim ∧ ∀ i (h : i < l.length), VAt w lim b (off + i * 3) l[i] := by
  rcases h with ⟨rfl, _⟩ | ⟨b, off, c', e, hb, hc⟩
  · simp at hne
  · injection e with e1 _ _; exact ⟨b, off, e1, hb, hc⟩
theorem VL.okN {w : World} {lim : Nat} {v : Value} {l : List Rm.Val} (h : VL w lim v l) : Rm.okN l := by
  rcases h with ⟨rfl, _⟩ | ⟨b, off, c, rfl, hlt, hc⟩
  · intro v hv; simp at hv
  · intro v hv
    obtain ⟨i, hi, rfl⟩ := List.getElem_of_mem hv
    obtain ⟨lv, _, _, _, _, h⟩ := hc i hi
    exact h
theorem KS.form {w : World} {lo lim : Nat} {v : Value} {l : List UInt8} (h : KS w lo lim v l) : ∃ A c, v = .slice A l.length c := by
  rcases h with ⟨rfl, A, c, rfl⟩ | ⟨b, off, c, rfl, _⟩
  · exact ⟨A, c, rfl⟩
  · exact ⟨_, c, rfl⟩
theorem KS.at {w : World} {lo lim n c : Nat} {A : Option Addr} {l : List UInt8} (h : KS w lo lim (.slice A n c) l) (hne : 0 < l.length) : ∃ b off, A = some ⟨b, off, none⟩ ∧ lo ≤ b ∧ b < lim ∧ ∀ i (h : i < l.length), KAt w b (off + i * 5) l[i] := by
  rcases h with ⟨rfl, _⟩ | ⟨b, off, c', e, hlo, hb, hc⟩
  · simp at hne
  · injection e with e1 _ _; exact ⟨b, off, e1, hlo, hb, hc⟩
theorem KAt.new (w : World) (c : UInt8) : KAt (w.alloc (.cells #[.int .u8 (c.toNat : Int), .int .i64 (kb c : Int), (.func (.func (chkF c)) #[] #[]), (.func (.func (wrF c)) #[] #[]), (.func (.func (rdF c)) #[] #[])] 60)) w.heap.size 0 c := by
  have h := Blk.new w #[.int .u8 (c.toNat : Int), .int .i64 (kb c : Int), (.func (.func (chkF c)) #[] #[]), (.func (.func (wrF c)) #[] #[]), (.func (.func (rdF c)) #[] #[])] 60
  exact ⟨h.cell 0 rfl, h.cell 1 rfl, h.cell 2 rfl, h.cell 3 rfl, h.cell 4 rfl⟩
theorem uKind : Try.prog.underlying 60 = some (.struct (Try.prog.fieldsOf 60)) := by kernel_rfl
theorem iKind : (Try.prog.info? 60).map (·.size) = some 5 := by kernel_rfl
/-- The cells of a letter, as an array. -/
def kArr (c : UInt8) : Array Value := #[.int .u8 (c.toNat : Int), .int .i64 (kb c : Int), .func (.func (chkF c)) #[] #[], .func (.func (wrF c)) #[] #[], .func (.func (rdF c)) #[] #[]]
theorem kArr_one (c : UInt8) : (kArr c).all (·.oneCell') = true := by simp [kArr, Value.oneCell']
theorem KAt.blk {w : World} {b : Nat} {c : UInt8} (h : Blk w b (kArr c) 60) : KAt w b 0 c := ⟨h.cell 0 rfl, h.cell 1 rfl, h.cell 2 rfl, h.cell 3 rfl, h.cell 4 rfl⟩
theorem enters (f : FuncId) (h : f = 42 ∨ f = 45 ∨ f = 37 ∨ f = 40 ∨ f = 43 ∨ f = 46 ∨ f = 38 ∨ f = 41 ∨ f = 44 ∨ f = 47 ∨ f = 39) :
    ∀ (args : Array Value) (w : World), (callFunc f args).run Try.prog w = .ok (.enter f args) w := by
  intro args w
  rcases h with rfl | rfl | rfl | rfl | rfl | rfl | rfl | rfl | rfl | rfl | rfl <;> rfl
theorem enters_chk (c : UInt8) : ∀ (args : Array Value) (w : World), (callFunc (chkF c) args).run Try.prog w = .ok (.enter (chkF c) args) w :=
  enters _ (by unfold chkF; split; exact .inl rfl; split; exact .inr (.inl rfl); exact .inr (.inr (.inl rfl)))
theorem enters_wr (c : UInt8) : ∀ (args : Array Value) (w : World), (callFunc (wrF c) args).run Try.prog w = .ok (.enter (wrF c) args) w :=
  enters _ (by unfold wrF; split; exact .inr (.inr (.inr (.inl rfl))); split; exact .inr (.inr (.inr (.inr (.inl rfl)))); split; exact .inr (.inr (.inr (.inr (.inr (.inl rfl))))); exact .inr (.inr (.inr (.inr (.inr (.inr (.inl rfl)))))))
theorem enters_rd (c : UInt8) : ∀ (args : Array Value) (w : World), (callFunc (rdF c) args).run Try.prog w = .ok (.enter (rdF c) args) w :=
  enters _ (by unfold rdF; split; exact .inr (.inr (.inr (.inr (.inr (.inr (.inr (.inl rfl))))))); split; exact .inr (.inr (.inr (.inr (.inr (.inr (.inr (.inr (.inl rfl)))))))); split; exact .inr (.inr (.inr (.inr (.inr (.inr (.inr (.inr (.inr (.inl rfl))))))))); exact .inr (.inr (.inr (.inr (.inr (.inr (.inr (.inr (.inr (.inr rfl))))))))))
/-- What a round of Encode reads: the copy of the kind, and the value. -/
def Rd (W : World) (p b o : Nat) (c : UInt8) (x : Rm.Val) (lv : Value) : Prop :=
  W.cell? ⟨p, 0, none⟩ = some (.int .u8 (c.toNat : Int)) ∧ W.cell? ⟨p, 1, none⟩ = some (.int .i64 (kb c : Int)) ∧ W.cell? ⟨p, 2, none⟩ = some (.func (.func (chkF c)) #[] #[]) ∧ W.cell? ⟨p, 3, none⟩ = some (.func (.func (wrF c)) #[] #[]) ∧ W.cell? ⟨p, 4, none⟩ = some (.func (.func (rdF c)) #[] #[]) ∧
  W.cell? ⟨b, o, none⟩ = some (.int .u64 (x.num : Int)) ∧ W.cell? ⟨b, o + 1, none⟩ = some (.string ⟨x.str.toArray⟩) ∧ W.cell? ⟨b, o + 2, none⟩ = some lv
theorem Rd.below {w w' : World} {B p b o : Nat} {c : UInt8} {x : Rm.Val} {lv : Value} (h : Rd w p b o c x lv) (hb : Below B w w') (h1 : p < B) (h2 : b < B) : Rd w' p b o c x lv := by
  obtain ⟨a0, a1, a2, a3, a4, b0, b1, b2⟩ := h
  exact ⟨(hb.cell (p := ⟨p, _, none⟩) h1).trans a0, (hb.cell (p := ⟨p, _, none⟩) h1).trans a1, (hb.cell (p := ⟨p, _, none⟩) h1).trans a2, (hb.cell (p := ⟨p, _, none⟩) h1).trans a3, (hb.cell (p := ⟨p, _, none⟩) h1).trans a4, (hb.cell (p := ⟨b, _, none⟩) h2).trans b0, (hb.cell (p := ⟨b, _, none⟩) h2).trans b1, (hb.cell (p := ⟨b, _, none⟩) h2).trans b2⟩
theorem Rd.of {w : World} {p b o lim : Nat} {c : UInt8} {x : Rm.Val} (h : Blk w p (kArr c) 60) (hv : VAt w lim b o x) : ∃ lv, Rd w p b o c x lv ∧ VA w lim (.agg #[.int .u64 (x.num : Int), .string ⟨x.str.toArray⟩, lv]) x := by
  obtain ⟨lv, h0, h1, h2, h3, h4⟩ := hv
  exact ⟨lv, ⟨h.cell 0 rfl, h.cell 1 rfl, h.cell 2 rfl, h.cell 3 rfl, h.cell 4 rfl, h0, h1, h2⟩, lv, rfl, h3, h4⟩
theorem Rd.of2 {w : World} {p b o : Nat} {c : UInt8} {x : Rm.Val} {lv : Value} (h : Blk w p (kArr c) 60) (h0 : w.cell? ⟨b, o, none⟩ = some (.int .u64 (x.num : Int))) (h1 : w.cell? ⟨b, o + 1, none⟩ = some (.string ⟨x.str.toArray⟩)) (h2 : w.cell? ⟨b, o + 2, none⟩ = some lv) : Rd w p b o c x lv :=
  ⟨h.cell 0 rfl, h.cell 1 rfl, h.cell 2 rfl, h.cell 3 rfl, h.cell 4 rfl, h0, h1, h2⟩
theorem valB_le {c : UInt8} {x : Rm.Val} (h : Rm.isK c = true) (he : Rm.valE c x = 0) (hn : x.num < 2 ^ 64) : (Rm.valB c x).length ≤ 1000 := by
  have g1 := (Rm.grps_len x.str.length).2
  have g2 := (Rm.grps_len x.lst.length).2
  have g3 := (Rm.grps_len x.num).2
  have hw : Rm.wid c ≤ 8 := by rcases Rm.isK_cases h with rfl | rfl | rfl | rfl | rfl | rfl | rfl <;> simp [Rm.wid]
  rcases Rm.valE_ok h he hn with ⟨rfl, e, hl⟩ | ⟨rfl, e, hl⟩ | ⟨rfl, e⟩ | ⟨hw, h1, h2, h3, e, hl⟩
  · have : Rm.valB 115 x = Rm.grps x.str.length ++ x.str := rfl
    rw [this, List.length_append]; omega
  · have : Rm.valB 108 x = Rm.grps x.lst.length ++ Rm.lowL x.lst := rfl
    rw [this, List.length_append, Rm.lowL_len]; omega
  · have : Rm.valB 118 x = Rm.grps x.num := rfl
    rw [this]; omega
  · have : Rm.valB c x = Rm.low (Rm.wid c) x.num := by unfold Rm.valB; rw [if_neg h1, if_neg h2, if_neg h3]
    rw [this, Rm.low_len]; omega
/-- What Encode hands back. -/
def EnE (w : World) (fs : List UInt8) (l : List Rm.Val) (e : Ending) (w' : World) : Prop :=
  ∃ v, e = .returned (.tuple #[v, .int .i64 (((Rm.encR fs l).2 : Nat) : Int)]) ∧ SL encB w' w'.heap.size v (Rm.encR fs l).1 ∧ Below w.heap.size w w'
theorem EnE.bad {w w' : World} {fs : List UInt8} {l : List Rm.Val} {e : Ending} {n : Nat} (h : Rm.encR fs l = ([], n)) (he : e = .returned (.tuple #[.slice none 0 0, .int .i64 (n : Int)])) (hb : Below w.heap.size w w') : EnE w fs l e w' := by
  unfold EnE; rw [h]; exact ⟨_, he, SL.nil _ _, hb⟩
set_option maxRecDepth 100000 in
set_option maxHeartbeats 2000000 in
theorem encode_any (w : World) (v : Value) (fs : List UInt8) (l : List Rm.Val) (hv : VL w w.heap.size v l) (hf : fs.length ≤ 1000000000) (hl : l.length ≤ 1000000000) :
    Calls Try.prog 11 #[.string ⟨fs.toArray⟩, v] w fun e w' => EnE w fs l e w' := by
  obtain ⟨A, c0, rfl⟩ := hv.form
  have HV := Lib.hid hv
  clear hv
  go_enter Try.func11, Try.ntmps11
  go_wp2_with fail
  refine (kindsOf_any w fs hf).mono ?_
  rintro e w1 ⟨vk, rfl, hks, hb⟩
  have HB1 := Lib.hid hb
  clear hb
  by_cases hfe : Rm.formE fs = 0
  case neg =>
    have HR : Hid (Rm.encR fs l = ([], Rm.formE fs)) := by unfold Rm.encR; exact if_pos hfe
    obtain ⟨n, hn⟩ : ∃ n, n = Rm.formE fs := ⟨_, rfl⟩
    rw [← hn] at HR hfe ⊢
    have hd : ((n : Int) != 0) = true := by rw [bne_iff_ne]; omega
    clear hks hn
    go_wp2_with fail
    go_ret2
    exact EnE.bad HR.out rfl HB1.out
  have HKS := Lib.hid (hks hfe)
  rw [hfe]
  clear hks
  obtain ⟨Ak, ck, rfl⟩ := HKS.out.form
  by_cases hne : l.length = fs.length
  case neg =>
    have HR : Hid (Rm.encR fs l = ([], 2)) := by unfold Rm.encR; rw [if_neg (by rw [hfe]; simp), if_pos hne]; rfl
    have hd : ((l.length : Int) != (fs.length : Int)) = true := by rw [bne_iff_ne]; omega
    clear hfe hne
    go_wp2_with fail
    go_ret2
    exact EnE.bad HR.out rfl HB1.out
  have HFE := Lib.hid hfe
  have HNE := Lib.hid hne
  have h64 := (Rm.formE_zero hfe).1
  have HAK := Lib.hid (Rm.formE_zero hfe).2
  have hd : ((l.length : Int) != (fs.length : Int)) = false := by rw [bne_eq_false_iff_eq]; omega
  clear hfe hne
  go_wp2_with fail
  go_loopw [8, 27] (fun b i wr => ∃ (k : Nat) (B : List UInt8), k ≤ fs.length ∧ i = .int .i64 k ∧ Hid (Rm.encL (fs.take k) (l.take k) = (B, 0)) ∧ B.length ≤ 1000 * k ∧ Hid (OB wr w1.heap.size b B) ∧ Hid (Below w1.heap.size w1 wr)) (fun _ i _ => fs.length - (intOf i).toNat)
  case atStart => exact ⟨0, [], by omega, rfl, by simp [Hid, Rm.encL_nil], by simp, OB.nil _ _, Below.refl _ _⟩
  case round =>
    obtain ⟨k, B, hk, rfl, HE, hBl, HO, HB⟩ := hrel
    have hwb : Hid (Below w.heap.size w wr) := HB1.out.trans (HB.out.mono HB1.out.size)
    by_cases hlt : k < fs.length
    · have hltI : (k : Int) < (fs.length : Int) := by omega
      have hlt2 : k < l.length := by rw [HNE.out]; exact hlt
      have hltI2 : (k : Int) < (l.length : Int) := by omega
      obtain ⟨bk, ok, hA, _, hbk, hck⟩ := HKS.out.at (by omega)
      subst hA
      obtain ⟨bv, ov, hA, hbv, hcv⟩ := HV.out.at (by omega)
      subst hA
      obtain ⟨g0, g1, g2, g3, g4⟩ := (hck k hlt).below HB.out hbk
      clear hck
      have hva := hcv k hlt2
      clear hcv
      have hisk : Hid (Rm.isK fs[k] = true) := List.all_eq_true.1 HAK.out _ (List.getElem_mem _)
      have hnx : Hid (Rm.valE fs[k] l[k] = 0 → Rm.encL (fs.take (k + 1)) (l.take (k + 1)) = (B ++ Rm.valB fs[k] l[k], 0)) := fun h => Rm.encL_next hlt hlt2 HE.out h
      have hst : Hid (Rm.valE fs[k] l[k] ≠ 0 → Rm.encL fs l = ([], Rm.valE fs[k] l[k])) := fun h => Rm.encL_stop hlt hlt2 HE.out h
      have hvl : Hid (Rm.valE fs[k] l[k] = 0 → (Rm.valB fs[k] l[k]).length ≤ 1000) := fun h => valB_le hisk.out h (by obtain ⟨_, _, _, _, _, hh⟩ := hva; omega)
      obtain ⟨c, hc⟩ : ∃ c, c = fs[k] := ⟨_, rfl⟩
      obtain ⟨x, hx⟩ : ∃ x, x = l[k] := ⟨_, rfl⟩
      rw [← hc] at g0 g1 g2 g3 g4 hisk hnx hst hvl
      rw [← hx] at hva hnx hst hvl
      clear hc hx
      go_wp2_with (refine wpList_store_row rfl 60 (.tmp 10) (.tmp 31) rfl wr.heap.size (kArr c) rfl rfl 60 _ (Blk.new wr _ _) (by rw [iKind]; rfl) rfl (kArr_one c) ?_)
      have HKB := Lib.hid (setRow_blk (Blk.new wr #[.int .u8 0, .int .i64 0, .nilFunc, .nilFunc, .nilFunc] 60) (kArr c))
      have HBK := Lib.hid (below_setRow (cs := kArr c) ((Below.refl wr.heap.size wr).alloc (Nat.le_refl _) (.cells #[.int .u8 0, .int .i64 0, .nilFunc, .nilFunc, .nilFunc] 60)) (Nat.le_refl _))
      generalize World.setRow (wr.alloc (.cells #[.int .u8 0, .int .i64 0, .nilFunc, .nilFunc, .nilFunc] 60)) wr.heap.size (kArr c) = wk at HKB HBK ⊢
      have hen := enters_chk c
      have hwk : Hid (Below w.heap.size w wk) := hwb.out.trans (HBK.out.mono hwb.out.size)
      have hws := hwb.out.size
      have hw1 := HB1.out.size
      have hb1s := HB.out.size
      have hkl := HKB.out.lt
      have hvaw : VAt wk w.heap.size bv (ov + k * 3) x := hva.below hwk.out hbv (Nat.le_refl _)
      obtain ⟨lv, hrd, hvv⟩ := Rd.of HKB.out hvaw
      have HVV := Lib.hid hvv
      have HC := Lib.hid (chk_any wk.drew c hisk.out w.heap.size _ x (hvv : VA wk.drew _ _ _))
      have HRD := Lib.hid hrd
      obtain ⟨a0, a1, a2, a3, a4, b0, b1, b2⟩ := hrd
      clear hva hvaw hvv g0 g1 g2 g3 g4
      go_wp2_with fail
      go_region_held_law (fun W => W.cell? ⟨wr.heap.size, 0, none⟩ = some (.int .u8 (c.toNat : Int)) ∧ W.cell? ⟨wr.heap.size, 1, none⟩ = some (.int .i64 (kb c : Int)) ∧ W.cell? ⟨wr.heap.size, 2, none⟩ = some (.func (.func (chkF c)) #[] #[]) ∧ W.cell? ⟨wr.heap.size, 3, none⟩ = some (.func (.func (wrF c)) #[] #[]) ∧ W.cell? ⟨wr.heap.size, 4, none⟩ = some (.func (.func (rdF c)) #[] #[]) ∧
          W.cell? ⟨bv, ov + k * 3, none⟩ = some (.int .u64 (x.num : Int)) ∧ W.cell? ⟨bv, ov + k * 3 + 1, none⟩ = some (.string ⟨x.str.toArray⟩) ∧ W.cell? ⟨bv, ov + k * 3 + 2, none⟩ = some lv) (first | (exact ⟨by assumption, by assumption, by assumption, by assumption, by assumption, by assumption, by assumption, by assumption⟩) | exact HS.out)
        (first
        | (refine HC.out.mono ?_
           rintro e w4 ⟨rfl, hb⟩
           have HB4 : Hid (Below wk.heap.size wk w4) := (Below.refl wk.heap.size wk).drew.trans hb
           have HS := Lib.hid (HRD.out.below HB4.out (by omega) (by omega))
           clear hb))
      rename_i hHeld
      clear hHeld a0 a1 a2 a3 a4 b0 b1 b2 hen HC
      have hs4 := HB4.out.size
      have hsk := HBK.out.size
      obtain ⟨n, hn⟩ : ∃ n, n = Rm.valE c x := ⟨_, rfl⟩
      rw [← hn] at hnx hst hvl
      rw [← hn]
      have HN := Lib.hid hn
      clear hn
      by_cases h0 : n = 0
      · subst h0
        have hen := enters_wr c
        obtain ⟨a0, a1, a2, a3, a4, b0, b1, b2⟩ := HS.out
        have HO4 : Hid (OB w4 w1.heap.size u8 B) := (HO.out.below HBK.out).below HB4.out
        have HKB4 : Hid (Blk w4 wr.heap.size (kArr c) 60) := HKB.out.below HB4.out hkl
        have HC := Lib.hid (wr_any w4.drew w1.heap.size c hisk.out w.heap.size u8 _ B x ((HVV.out.below HB4.out (by omega) : VA w4 _ _ _) : VA w4.drew _ _ _) hw1 (HO4.out.drewN 1) (by show w1.heap.size ≤ w4.heap.size; omega) (by omega) HN.out.symm)
        have hvl0 := hvl.out rfl
        go_wp2_with fail
        go_region_held_law (fun W => W.cell? ⟨wr.heap.size, 0, none⟩ = some (.int .u8 (c.toNat : Int)) ∧ W.cell? ⟨wr.heap.size, 1, none⟩ = some (.int .i64 (kb c : Int)) ∧ W.cell? ⟨wr.heap.size, 2, none⟩ = some (.func (.func (chkF c)) #[] #[]) ∧ W.cell? ⟨wr.heap.size, 3, none⟩ = some (.func (.func (wrF c)) #[] #[]) ∧ W.cell? ⟨wr.heap.size, 4, none⟩ = some (.func (.func (rdF c)) #[] #[]) ∧
            W.cell? ⟨bv, ov + k * 3, none⟩ = some (.int .u64 (x.num : Int)) ∧ W.cell? ⟨bv, ov + k * 3 + 1, none⟩ = some (.string ⟨x.str.toArray⟩) ∧ W.cell? ⟨bv, ov + k * 3 + 2, none⟩ = some lv) (first | (exact ⟨by assumption, by assumption, by assumption, by assumption, by assumption, by assumption, by assumption, by assumption⟩) | exact HS5.out)
          (first
          | (refine HC.out.mono ?_
             rintro e w5 ⟨v5, rfl, ho5, hb5⟩
             have HO5 := Lib.hid ho5
             have HK5 := hb5.kp _ _ _ (by decide) (HKB4.out.drewN 1)
             have hl5 : ∀ o, w5.cell? ⟨bv, o, none⟩ = w4.cell? ⟨bv, o, none⟩ := fun o => hb5.bl.cell (p := ⟨bv, o, none⟩) (show bv < w1.heap.size by omega)
             have HS5 := Lib.hid (Rd.of2 HK5 ((hl5 _).trans HS.out.2.2.2.2.2.1) ((hl5 _).trans HS.out.2.2.2.2.2.2.1) ((hl5 _).trans HS.out.2.2.2.2.2.2.2))
             have HB5 : Hid (Below w1.heap.size w1 w5) := ((HB.out.trans (HBK.out.mono (by omega))).trans (HB4.out.mono (by omega))).drew.trans hb5.bl
             clear ho5 hb5 HK5 hl5))
        rename_i hHeld
        clear hHeld a0 a1 a2 a3 a4 b0 b1 b2 hen
        go_wp2_with fail
        go_roundw
        case rel => exact ⟨k + 1, _, by omega, by go_num, (by have h := hnx.out; first | exact h rfl | exact h trivial), by rw [List.length_append]; omega, HO5.out, HB5.out⟩
        case measure => simp [intOf]; omega
      · have hd0 : ((n : Int) != 0) = true := by rw [bne_iff_ne]; omega
        have HR : Hid (Rm.encR fs l = ([], n)) := by
          have h := hst.out h0
          show Rm.encR fs l = ([], n)
          unfold Rm.encR
          rw [h, if_neg (by rw [HFE.out]; simp), if_neg (by rw [HNE.out]; simp), if_pos h0]
        have HBE : Hid (Below w.heap.size w w4) := hwk.out.trans (HB4.out.mono hwk.out.size)
        clear h0
        go_wp2_with fail
        go_ret2
        exact EnE.bad HR.out rfl HBE.out
    · obtain rfl : k = fs.length := by omega
      have hltI : ¬ ((fs.length : Int) < (fs.length : Int)) := by omega
      have HE2 := HE
      rw [List.take_length, ← HNE.out, List.take_length] at HE2
      obtain ⟨Ab, cb, rfl⟩ := HO.out.form
      by_cases h4 : 4000 < B.length
      · have h4I : (4000 : Int) < (B.length : Int) := by omega
        have HR : Hid (Rm.encR fs l = ([], 3)) := by
          show Rm.encR fs l = ([], 3)
          unfold Rm.encR
          rw [HE2.out, if_neg (by rw [HFE.out]; simp), if_neg (by rw [HNE.out]; simp), if_neg (by simp), if_pos h4]
        go_wp2_with fail
        go_ret2
        exact EnE.bad HR.out rfl hwb.out
      · have h4I : ¬ (4000 : Int) < (B.length : Int) := by omega
        have HR : Hid (Rm.encR fs l = (B, 0)) := by
          show Rm.encR fs l = (B, 0)
          unfold Rm.encR
          rw [HE2.out, if_neg (by rw [HFE.out]; simp), if_neg (by rw [HNE.out]; simp), if_neg (by simp), if_neg h4]
        go_wp2_with fail
        go_ret2
        unfold EnE
        rw [HR.out]
        exact ⟨_, rfl, HO.out.sl, hwb.out⟩
/-- What Size hands back. -/
theorem size_any (w : World) (v : Value) (fs : List UInt8) (l : List Rm.Val) (hv : VL w w.heap.size v l) (hf : fs.length ≤ 1000000000) (hl : l.length ≤ 1000000000) :
    Calls Try.prog 13 #[.string ⟨fs.toArray⟩, v] w fun e w' => e = .returned (.tuple #[.int .i64 (((Rm.encR fs l).1.length : Nat) : Int), .int .i64 (((Rm.encR fs l).2 : Nat) : Int)]) ∧ Below w.heap.size w w' := by
  have HE := Lib.hid (encode_any w v fs l hv hf hl)
  clear hv
  go_enter Try.func13, Try.ntmps13
  go_wp2_with fail
  refine HE.out.mono ?_
  rintro e w1 ⟨v1, rfl, hs, hb⟩
  obtain ⟨B, n, hr⟩ : ∃ B n, Rm.encR fs l = (B, n) := ⟨_, _, rfl⟩
  rw [hr] at hs ⊢
  simp only at hs ⊢
  obtain ⟨A1, c1, rfl⟩ := hs.form
  have HB := Lib.hid hb
  have HR := Lib.hid hr
  clear hs hb HE hr
  go_wp2_with fail
  go_ret2
  exact ⟨by rw [HR.out]; rfl, HB.out⟩
end Go.Proofs.Ytelpgjaagkojeaa

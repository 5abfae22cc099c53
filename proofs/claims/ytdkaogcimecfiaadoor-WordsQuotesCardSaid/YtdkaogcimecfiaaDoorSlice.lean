/- Slices of fields in memory, and the contracts of words.tooLong and of the reference's Same over them. Condition: the slices' cells hold what is said of them. -/
import Derived.Test.YtdkaogcimecfiaaDoorFields
namespace Go.Proofs.YtdkaogcimecfiaaDoor
open Go.RowKit

/-- A list of fields as cells: a name that the walk does not open. -/
def fcells (fs : List (List UInt8 × Bool)) : List Value := fs.flatMap fun f => [.string ⟨f.1.toArray⟩, .bool f.2]
theorem fcells_nil : fcells [] = [] := rfl
theorem fcells_cons (f : List UInt8 × Bool) (fs : List (List UInt8 × Bool)) : fcells (f :: fs) = .string ⟨f.1.toArray⟩ :: .bool f.2 :: fcells fs := by simp [fcells]
theorem fcells_snoc (fs : List (List UInt8 × Bool)) (f : List UInt8 × Bool) : fcells (fs ++ [f]) = fcells fs ++ [.string ⟨f.1.toArray⟩, .bool f.2] := by simp [fcells]
theorem fcells_len (fs : List (List UInt8 × Bool)) : (fcells fs).length = fs.length * 2 := by
  induction fs with
  | nil => rfl
  | cons f fs ih => rw [fcells_cons]; simp [ih]; omega
theorem fcells_get (fs : List (List UInt8 × Bool)) : ∀ (i : Nat) (h : i < fs.length), (fcells fs)[i * 2]? = some (.string ⟨fs[i].1.toArray⟩) ∧ (fcells fs)[i * 2 + 1]? = some (.bool fs[i].2) := by
  induction fs with
  | nil => intro i h; simp at h
  | cons f fs ih =>
    intro i h
    rw [fcells_cons]
    cases i with
    | zero => exact ⟨rfl, rfl⟩
    | succ i =>
      have := ih i (by simpa using h)
      rw [show (i + 1) * 2 = i * 2 + 1 + 1 from by omega]
      simpa using this
/-- A slice value that holds fields, in blocks below lim. -/
def FlS (w : World) (lim : Nat) (v : Value) (fs : List (List UInt8 × Bool)) : Prop :=
  (fs = [] ∧ ∃ A c, v = .slice A 0 c) ∨
  ∃ b off c, v = .slice (some ⟨b, off, none⟩) fs.length c ∧ b < lim ∧ ∀ i (h : i < fs.length), w.cell? ⟨b, off + i * 2, none⟩ = some (.string ⟨fs[i].1.toArray⟩) ∧ w.cell? ⟨b, off + i * 2 + 1, none⟩ = some (.bool fs[i].2)
theorem FlS.below {w w' : World} {lim : Nat} {v : Value} {fs : List (List UInt8 × Bool)} (h : FlS w lim v fs) {B : Nat} (hb : Below B w w') (hB : lim ≤ B) : FlS w' lim v fs := by
  rcases h with h | ⟨b, off, c, rfl, hl, hc⟩
  · exact .inl h
  · exact .inr ⟨b, off, c, rfl, hl, fun i hi => ⟨(hb.cell (p := ⟨b, _, none⟩) (show b < B by omega)).trans (hc i hi).1, (hb.cell (p := ⟨b, _, none⟩) (show b < B by omega)).trans (hc i hi).2⟩⟩
theorem FlS.of_own {w : World} {base : Nat} {v : Value} {n : Nat} {fs : List (List UInt8 × Bool)} (hn : n = fs.length) (h : w.ownsRow base 49 2 v n (fcells fs)) : FlS w w.heap.size v fs := by
  subst hn
  rcases Go.Joins.ownsRow_forms h with ⟨rfl, h0⟩ | ⟨g, cap, rfl⟩
  · exact .inl ⟨List.eq_nil_of_length_eq_zero h0, none, 0, rfl⟩
  · refine .inr ⟨g, 0, cap, rfl, (h.lt g rfl).2, fun i hi => ?_⟩
    have := fcells_get fs i hi
    exact ⟨by rw [Nat.zero_add, h.cellAt _ (by omega)]; exact this.1, by rw [Nat.zero_add, h.cellAt _ (by omega)]; exact this.2⟩

def tooLongB (fs : List (List UInt8 × Bool)) : Bool := decide (64 < fs.length) || fs.any fun f => decide (2000 < f.1.length)
theorem any_take (fs : List (List UInt8 × Bool)) (p : List UInt8 × Bool → Bool) (k : Nat) (h : k < fs.length) : (fs.take (k + 1)).any p = ((fs.take k).any p || p fs[k]) := by
  rw [List.take_succ_eq_append_getElem h, List.any_append]; simp

set_option maxRecDepth 100000 in
set_option maxHeartbeats 1000000 in
theorem tooLong_any (w : World) (v : Value) (fs : List (List UInt8 × Bool)) (hv : FlS w w.heap.size v fs) (hf : fs.length ≤ 1000000001) :
    Calls Tryd.prog 45 #[v] w fun e w' => e = .returned (.bool (tooLongB fs)) ∧ Below w.heap.size w w' := by
  rcases hv with ⟨rfl, A, c, rfl⟩ | ⟨b, off, c, rfl, hb, hc⟩
  · go_enter Tryd.func45, Tryd.ntmps45
    go_wp2_with fail
    go_rounds 1
    go_ret
    exact ⟨rfl, Below.refl _ _⟩
  · by_cases h64 : 64 < fs.length
    · have hfin : tooLongB fs = true := by unfold tooLongB; rw [decide_eq_true h64]; rfl
      have H := Lib.hid hfin
      clear hfin
      go_enter Tryd.func45, Tryd.ntmps45
      go_wp2_with fail
      go_ret
      exact ⟨ret_bool H.out.symm, Below.refl _ _⟩
    · have hfin : tooLongB fs = fs.any fun f => decide (2000 < f.1.length) := by unfold tooLongB; rw [decide_eq_false h64]; rfl
      have H := Lib.hid hfin
      have HC := Lib.hid hc
      clear hfin hc
      go_enter Tryd.func45, Tryd.ntmps45
      go_wp2_with fail
      go_loopw [10] (fun i wr => ∃ k : Nat, k ≤ fs.length ∧ i = .int .i64 k ∧ Below w.heap.size w wr ∧ Hid ((fs.take k).any (fun f => decide (2000 < f.1.length)) = false)) (fun i _ => fs.length - (intOf i).toNat)
      case atStart => exact ⟨0, Nat.zero_le _, rfl, Below.refl _ _, by simp [Hid]⟩
      case round =>
        obtain ⟨k, hk, rfl, hB, HR⟩ := hrel
        by_cases hlt : k < fs.length
        · have h0 := (hB.cell (p := ⟨b, off + k * 2, none⟩) hb).trans (HC.out k hlt).1
          have h1 := (hB.cell (p := ⟨b, off + k * 2 + 1, none⟩) hb).trans (HC.out k hlt).2
          by_cases hl : 2000 < (fs[k].1.length : Int)
          · have hfin2 : (fs.any fun f => decide (2000 < f.1.length)) = true := by
              rw [List.any_eq_true]; exact ⟨fs[k], List.getElem_mem hlt, by simp; omega⟩
            have H2 := Lib.hid hfin2
            clear hfin2
            go_wp2_with fail
            go_ret
            exact ⟨ret_bool (by rw [H.out, H2.out]), hB.alloc (by have := hB.size; omega) _⟩
          · have hnx : (fs.take (k + 1)).any (fun f => decide (2000 < f.1.length)) = false := by
              rw [any_take _ _ k hlt, HR.out, decide_eq_false (p := 2000 < fs[k].1.length) (by omega)]; rfl
            have H2 := Lib.hid hnx
            clear hnx
            go_wp2_with fail
            go_roundw
            case rel => exact ⟨k + 1, by omega, by go_num, hB.alloc (by have := hB.size; omega) _, H2.out⟩
            case measure => simp [intOf]; omega
        · go_wp2_with fail
          go_ret
          exact ⟨ret_bool (by rw [H.out, ← HR.out, List.take_of_length_le (by omega)]), hB⟩

theorem fld_under : Tryd.prog.underlying 49 = some (.struct (Tryd.prog.fieldsOf 49)) := by kernel_rfl
theorem fld_stood : Tryd.prog.stoodInHeld 49 = false := by kernel_rfl
theorem fld_guard : Tryd.prog.eqGuardType Tryd.prog.depth 49 = false := by kernel_rfl
theorem fld_eq (d : Nat) (x y : ByteArray) (p q : Bool) (w : World) :
    (Op.equalIn (d + 2) 49 (.agg #[.string x, .bool p]) (.agg #[.string y, .bool q])).run Tryd.prog w = .ok (x.toList == y.toList && p == q) w := by
  rw [run_equalIn_agg w (d + 1) _ _ _ fld_under fld_stood]
  simp [go_sem]
  by_cases h1 : x.toList = y.toList <;> by_cases h2 : p = q <;> simp [h1, h2]
theorem fld_neq (x y : ByteArray) (p q : Bool) (w : World) :
    (binOp .neq 49 (.agg #[.string x, .bool p]) (.agg #[.string y, .bool q])).run Tryd.prog w = .ok (.bool (!(x.toList == y.toList && p == q))) w := by
  rw [run_neq_struct, fld_eq 9998]; rfl
/-- A field's cells say which field it is. -/
theorem fld_same (f g : List UInt8 × Bool) : ((⟨f.1.toArray⟩ : ByteArray).toList == (⟨g.1.toArray⟩ : ByteArray).toList && f.2 == g.2) = decide (f = g) := by
  obtain ⟨a, p⟩ := f
  obtain ⟨b, q⟩ := g
  have e : ∀ l : List UInt8, (⟨l.toArray⟩ : ByteArray).toList = l := fun l => by rw [Lib.toList_data]
  simp only [e]
  rw [Bool.eq_iff_iff]; simp
theorem take_eq_next {fs gs : List (List UInt8 × Bool)} {k : Nat} (h : fs.take k = gs.take k) (h1 : k < fs.length) (h2 : k < gs.length) (e : fs[k] = gs[k]) : fs.take (k + 1) = gs.take (k + 1) := by
  rw [List.take_succ_eq_append_getElem h1, List.take_succ_eq_append_getElem h2, h, e]

set_option maxRecDepth 100000 in
set_option maxHeartbeats 2000000 in
theorem same_any (w : World) (v v2 : Value) (fs gs : List (List UInt8 × Bool)) (hv : FlS w w.heap.size v fs) (hv2 : FlS w w.heap.size v2 gs) (hf : fs.length ≤ 1000000001) (hg : gs.length ≤ 1000000001) :
    Calls Tryd.prog 24 #[v, v2] w fun e w' => e = .returned (.bool (decide (fs = gs))) ∧ Below w.heap.size w w' := by
  obtain ⟨A, c, rfl⟩ : ∃ A c, v = .slice A fs.length c := by
    rcases hv with ⟨rfl, A, c, rfl⟩ | ⟨b, off, c, rfl, _⟩
    · exact ⟨A, c, rfl⟩
    · exact ⟨_, c, rfl⟩
  obtain ⟨A2, c2, rfl⟩ : ∃ A c, v2 = .slice A gs.length c := by
    rcases hv2 with ⟨rfl, A, c, rfl⟩ | ⟨b, off, c, rfl, _⟩
    · exact ⟨A, c, rfl⟩
    · exact ⟨_, c, rfl⟩
  by_cases hne : fs.length = gs.length
  case neg =>
    have hfin : decide (fs = gs) = false := by rw [decide_eq_false_iff_not]; intro e; exact hne (by rw [e])
    have H := Lib.hid hfin
    have hb : ((fs.length : Int) != (gs.length : Int)) = true := by rw [bne_iff_ne]; omega
    clear hfin
    go_enter Tryd.func24, Tryd.ntmps24
    go_wp2_with fail
    go_ret
    exact ⟨ret_bool H.out.symm, Below.refl _ _⟩
  have hb : ((fs.length : Int) != (gs.length : Int)) = false := by rw [bne_eq_false_iff_eq, hne]
  have HE := Lib.hid hne
  clear hne
  have HV := Lib.hid hv
  have HV2 := Lib.hid hv2
  clear hv hv2
  go_enter Tryd.func24, Tryd.ntmps24
  go_wp2_with fail
  go_loopw [5] (fun i wr => ∃ k : Nat, k ≤ fs.length ∧ i = .int .i64 k ∧ Below w.heap.size w wr ∧ Hid (fs.take k = gs.take k)) (fun i _ => fs.length - (intOf i).toNat)
  case atStart => exact ⟨0, Nat.zero_le _, rfl, Below.refl _ _, by simp [Hid]⟩
  case round =>
    obtain ⟨k, hk, rfl, hB, HR⟩ := hrel
    by_cases hlt : k < fs.length
    · obtain ⟨b, off, hA, hb1, hc1⟩ : ∃ b off, A = some ⟨b, off, none⟩ ∧ b < w.heap.size ∧ ∀ i (h : i < fs.length), w.cell? ⟨b, off + i * 2, none⟩ = some (.string ⟨fs[i].1.toArray⟩) ∧ w.cell? ⟨b, off + i * 2 + 1, none⟩ = some (.bool fs[i].2) := by
        rcases HV.out with ⟨h0, _⟩ | ⟨b, off, c', e, hb, hc⟩
        · rw [h0] at hlt; simp at hlt
        · injection e with e1 _ _; exact ⟨b, off, e1, hb, hc⟩
      have hlt2 : k < gs.length := by have := HE.out; omega
      obtain ⟨b', off', hA2, hb2, hc2⟩ : ∃ b off, A2 = some ⟨b, off, none⟩ ∧ b < w.heap.size ∧ ∀ i (h : i < gs.length), w.cell? ⟨b, off + i * 2, none⟩ = some (.string ⟨gs[i].1.toArray⟩) ∧ w.cell? ⟨b, off + i * 2 + 1, none⟩ = some (.bool gs[i].2) := by
        rcases HV2.out with ⟨h0, _⟩ | ⟨b, off, c', e, hb, hc⟩
        · rw [h0] at hlt2; simp at hlt2
        · injection e with e1 _ _; exact ⟨b, off, e1, hb, hc⟩
      subst hA hA2
      have p0 := (hB.cell (p := ⟨b, off + k * 2, none⟩) hb1).trans (hc1 k hlt).1
      have p1 := (hB.cell (p := ⟨b, off + k * 2 + 1, none⟩) hb1).trans (hc1 k hlt).2
      have q0 := (hB.cell (p := ⟨b', off' + k * 2, none⟩) hb2).trans (hc2 k hlt2).1
      have q1 := (hB.cell (p := ⟨b', off' + k * 2 + 1, none⟩) hb2).trans (hc2 k hlt2).2
      have hneq := fun w => fld_neq ⟨fs[k].1.toArray⟩ ⟨gs[k].1.toArray⟩ fs[k].2 gs[k].2 w
      have i1 : (k : Int) < (fs.length : Int) := by omega
      have i2 : (k : Int) < (gs.length : Int) := by omega
      clear hc1 hc2
      by_cases hsame : fs[k] = gs[k]
      · rw [fld_same, decide_eq_true hsame] at hneq
        have hnx := take_eq_next HR.out hlt hlt2 hsame
        have HN := Lib.hid hnx
        clear hnx hsame
        go_wp2_with fail
        go_quiet (fail)
        go_wp2_with fail
        go_roundw
        case rel => exact ⟨k + 1, by omega, by go_num, below_drewN hB _, HN.out⟩
        case measure => simp [intOf]; omega
      · rw [fld_same, decide_eq_false hsame] at hneq
        have hfin : decide (fs = gs) = false := by
          rw [decide_eq_false_iff_not]; intro e; exact hsame (by simp only [e])
        have H := Lib.hid hfin
        clear hfin hsame
        go_wp2_with fail
        go_quiet (fail)
        go_wp2_with fail
        go_ret
        exact ⟨ret_bool H.out.symm, below_drewN hB _⟩
    · have hfin : decide (fs = gs) = true := by
        rw [decide_eq_true_iff]
        have := HR.out
        rwa [List.take_of_length_le (by omega), List.take_of_length_le (by have := HE.out; omega)] at this
      have H := Lib.hid hfin
      clear hfin
      go_wp2_with fail
      go_ret
      exact ⟨ret_bool H.out.symm, hB⟩
end Go.Proofs.YtdkaogcimecfiaaDoor

/- The contracts of Parse and Print, of the program and of the reference. Conditions: the slices hold what is said of them; strings of at most 10^6 bytes; the library's variable MaxLen holds a number. -/
import Derived.Test.YtgfmfeaapffdfaaDoorTop
import Derived.Test.YtgfmfeaapffdfaaDoorTx
import Derived.Maps.AppendAt
namespace Go.Proofs.YtgfmfeaapffdfaaDoor
open Go.RowKit

/-- The library's variable holds a number. -/
def ML (w : World) : Prop := 3 ≤ w.heap.size ∧ ∃ m, w.cell? ⟨0, 0, none⟩ = some (.int .i64 m)
theorem ML.next {w w' : World} (h : ML w) (hb : Below w.heap.size w w') : ML w' := by
  obtain ⟨h1, m, h2⟩ := h
  exact ⟨Nat.le_trans h1 hb.size, m, (hb.cell (p := ⟨_, 0, none⟩) (show 0 < w.heap.size by omega)).trans h2⟩

/-! ### plain -/
theorem jn_len : ∀ (l : List (List UInt8)), (∀ x ∈ l, x.length ≤ 24) → (jn l).length ≤ 25 * l.length
  | [], _ => by simp [jn]
  | [x], h => by have := h x (by simp); simp [jn]; omega
  | x :: y :: r, h => by
    have h1 := h x (by simp)
    have h2 := jn_len (y :: r) (fun z hz => h z (by simp [hz]))
    simp only [jn, List.length_append, List.length_cons] at h2 ⊢
    omega
theorem names_len {p : Path} (h : ∀ s ∈ p, nameE s = 0) : ∀ x ∈ p.map bs, x.length ≤ 24 := fun x hx => by
  obtain ⟨s, hs, rfl⟩ := List.mem_map.1 hx
  rw [bs_len]; exact (nameE_ok (h s hs)).2.1
def fl (p : Path) : List UInt8 := p.flatMap fun s => 47 :: bs s
theorem fl_nil : fl [] = [] := rfl
theorem fl_take (p : Path) (k : Nat) (h : k < p.length) : fl (p.take (k + 1)) = fl (p.take k) ++ 47 :: bs p[k] := by
  unfold fl; rw [List.take_succ_eq_append_getElem h, List.flatMap_append]; simp
theorem fl_text : ∀ (p : Path), p ≠ [] → fl p = textL p
  | [], h => (h rfl).elim
  | [x], _ => by simp [fl, textL, jn]
  | x :: y :: r, _ => by
    have ih := fl_text (y :: r) (by simp)
    unfold textL at ih ⊢
    show (47 :: bs x) ++ fl (y :: r) = _
    rw [ih]; simp [jn]
theorem bs_two (a b : ByteArray) : bs (a ++ b) = bs a ++ bs b := bs_app a b
theorem head_size {s : ByteArray} (h : ¬ s.size = 0) : (bs s).head? = some s[0] := by
  have := bs_drop s 0 (by omega)
  rw [List.drop_zero] at this
  rw [this]; rfl
theorem splitB_size (sep : ByteArray) : ∀ (k : Nat) (s : ByteArray), ∀ x ∈ Lib.splitB sep 0 k s, x.size ≤ s.size
  | 0, s => fun x hx => by rw [Lib.splitB_zero] at hx; rw [List.mem_singleton.1 hx]; exact Nat.le_refl _
  | k + 1, s => fun x hx => by
    unfold Lib.splitB at hx
    split at hx
    · rw [List.mem_singleton.1 hx]; exact Nat.le_refl _
    · rcases List.mem_cons.1 hx with rfl | hx
      · rw [ByteArray.size_extract]; omega
      · have := splitB_size sep k _ x hx
        rw [ByteArray.size_extract] at this; omega
theorem sl_split {w : World} (xs : List ByteArray) (N : Nat) (h : xs.length ≤ N) :
    SL encS (w.alloc (.cells (Lib.cellsOf xs N) 9)) (w.alloc (.cells (Lib.cellsOf xs N) 9)).heap.size (.slice (some ⟨w.heap.size, 0, none⟩) xs.length N) xs := by
  refine .inr ⟨w.heap.size, 0, N, rfl, by simp, h, fun i hi => ?_⟩
  rw [cells_at, Nat.zero_add]
  unfold Lib.cellsOf
  rw [List.getElem?_toArray, List.getElem?_append_left (by simpa using hi), List.getElem?_map, List.getElem?_eq_getElem hi]; rfl

/-! ### Print -/
/-- What a call hands back: a string, and an error. -/
def TextE (w : World) (r : ByteArray × Nat) (e : Ending) (w' : World) : Prop := e = .returned (.tuple #[.string r.1, .int .i64 (r.2 : Int)]) ∧ Below w.heap.size w w'
theorem join_text {p : Path} : (⟨#[47]⟩ : ByteArray) ++ ⟨(Lib.join (p.map (·.data.toList)) sl.data.toList).toArray⟩ = textOf p := by
  apply bs_inj
  rw [bs_two]
  show [47] ++ Lib.join (p.map bs) [47] = 47 :: jn (p.map bs)
  rw [jn_joins]; rfl

set_option maxRecDepth 100000 in
set_option maxHeartbeats 2000000 in
theorem print_any (w : World) (v : Value) (p : Path) (hv : SL encS w w.heap.size v p) (hp : Fit p) :
    Calls Tryd.prog 15 #[v] w fun e w' => TextE w (printR p) e w' := by
  have HC := Lib.hid (check_any w _ p hv hp.2)
  by_cases hE : checkE p = 0
  case neg =>
    have hb := int_some hE
    have H : Hid (printR p = (⟨#[]⟩, checkE p)) := by show printR p = _; unfold printR; rw [if_neg hE]
    obtain ⟨A, c, rfl⟩ := hv.form
    clear hE hv
    go_enter Tryd.func15, Tryd.ntmps15
    go_wp2_with fail
    refine HC.out.mono ?_
    rintro e w' ⟨rfl, rfl⟩
    go_wp2_with fail
    go_ret2
    rw [H.out]
    exact ⟨rfl, Below.refl _ _⟩
  have hb := int_zero hE
  have H : Hid (printR p = (textOf p, 0)) := by show printR p = _; unfold printR; rw [if_pos hE]
  have hz := (checkE_zero p).1 hE
  have hjl := jn_len (p.map bs) (names_len hz.2)
  rw [List.length_map] at hjl
  have hlen : (Lib.join (p.map (·.data.toList)) sl.data.toList).length ≤ 200 := by
    have : Lib.join (p.map (·.data.toList)) sl.data.toList = jn (p.map bs) := (jn_joins _).symm
    rw [this]; omega
  have HJ : Hid (Calls Tryd.prog 42 #[v, .string ⟨#[47]⟩] w fun e w' => e = .returned (.string ⟨(Lib.join (p.map (·.data.toList)) sl.data.toList).toArray⟩) ∧ Below w.heap.size w w') := by
    rcases hv with ⟨rfl, rfl | ⟨ad, c, rfl⟩⟩ | ⟨b, off, c, rfl, hl, hcap, hc⟩
    · exact (Tryd.strings_Join_none none 0 sl w).mono fun e w' h => ⟨h.1, by rw [h.2]; exact Below.refl _ _⟩
    · exact (Tryd.strings_Join_none (some ad) c sl w).mono fun e w' h => ⟨h.1, by rw [h.2]; exact Below.refl _ _⟩
    · exact Tryd.strings_Join b off c p sl w (fun j x hx => by obtain ⟨hj, rfl⟩ := List.getElem?_eq_some_iff.1 hx; exact hc j hj) hl (by omega) hcap (by omega)
  obtain ⟨J, hJ⟩ : ∃ J : ByteArray, J = ⟨(Lib.join (p.map (·.data.toList)) sl.data.toList).toArray⟩ := ⟨_, rfl⟩
  have hJs : J.size ≤ 200 := by rw [← bs_len, hJ]; exact hlen
  have hJt : (⟨#[47]⟩ : ByteArray) ++ J = textOf p := by rw [hJ]; exact join_text
  rw [← hJ] at HJ
  have HT := Lib.hid hJt
  obtain ⟨A, c, rfl⟩ := hv.form
  clear hE hv hJ hJt hz hjl hlen
  go_enter Tryd.func15, Tryd.ntmps15
  go_wp2_with fail
  refine HC.out.mono ?_
  rintro e w' ⟨rfl, rfl⟩
  go_wp2_with fail
  refine HJ.out.mono ?_
  rintro e w1 ⟨rfl, hb1⟩
  go_wp2_with fail
  go_ret2
  rw [H.out]
  exact ⟨by rw [← HT.out]; rfl, hb1⟩

set_option maxRecDepth 100000 in
set_option maxHeartbeats 2000000 in
theorem rtext_any (w : World) (v : Value) (p : Path) (hv : SL encS w w.heap.size v p) (hE : checkE p = 0) :
    Calls Tryd.prog 43 #[v] w fun e w' => e = .returned (.string (textOf p)) ∧ w = w' := by
  have hz := (checkE_zero p).1 hE
  obtain ⟨A, c, rfl⟩ := hv.form
  by_cases h0 : p.length = 0
  · have hp : p = [] := List.eq_nil_of_length_eq_zero h0
    subst hp
    clear hE hz hv h0
    go_enter Tryd.func43, Tryd.ntmps43
    go_wp2_with fail
    go_ret
    exact ⟨rfl, rfl⟩
  have hne : ((p.length : Int) == 0) = false := int_some' h0
  have HV := Lib.hid hv
  have HN : Hid (∀ s ∈ p, s.size ≤ 24) := fun s hs => (nameE_ok (hz.2 s hs)).2.1
  have hl8 := hz.1
  have HP : Hid (p ≠ []) := fun e => h0 (by rw [e]; rfl)
  clear hE hz hv h0
  go_enter Tryd.func43, Tryd.ntmps43
  go_wp2_with fail
  go_loop [3, 4] (fun t i => ∃ (k : Nat) (tt : ByteArray), k ≤ p.length ∧ i = .int .i64 k ∧ t = .string tt ∧ tt.size ≤ 25 * k ∧ Hid (bs tt = fl (p.take k))) (fun _ i => p.length - (intOf i).toNat)
  case atStart => exact ⟨0, ⟨#[]⟩, Nat.zero_le _, rfl, rfl, Nat.le_refl _, rfl⟩
  case round =>
    obtain ⟨k, tt, hk, rfl, rfl, hts, HR⟩ := hrel
    by_cases hlt : k < p.length
    · obtain ⟨b, off, rfl, hb, hc⟩ := HV.out.at (by omega)
      have h1 := hc k hlt
      simp only [encS] at h1
      have hs := HN.out p[k] (List.getElem_mem _)
      have HF : Hid (bs (tt ++ ⟨#[47]⟩ ++ p[k]) = fl (p.take (k + 1))) := by
        show bs _ = _
        rw [bs_two, bs_two, HR.out, fl_take p k hlt, List.append_assoc]; rfl
      have e1 : (⟨#[47]⟩ : ByteArray).size = 1 := rfl
      have e2 : (tt ++ ⟨#[47]⟩ : ByteArray).size = tt.size + 1 := by rw [ByteArray.size_append, e1]
      have e3 : (tt ++ ⟨#[47]⟩ ++ p[k] : ByteArray).size = tt.size + 1 + p[k].size := by rw [ByteArray.size_append, e2]
      have E3 := Lib.hid e3
      clear hc e3
      go_wp2_with fail
      go_round
      case rel => exact ⟨k + 1, _, by omega, by go_num, rfl, by rw [E3.out]; omega, HF.out⟩
      case measure => simp [intOf]; omega
    · have hfin : tt = textOf p := by
        apply bs_inj
        rw [HR.out, List.take_of_length_le (by omega), fl_text p HP.out]; rfl
      have HF := Lib.hid hfin
      clear hfin
      go_wp2_with fail
      go_ret
      exact ⟨by rw [← HF.out]; rfl, rfl⟩

set_option maxRecDepth 100000 in
set_option maxHeartbeats 2000000 in
theorem rprint_any (w : World) (v : Value) (p : Path) (hv : SL encS w w.heap.size v p) (hp : Fit p) :
    Calls Tryd.prog 16 #[v] w fun e w' => TextE w (printR p) e w' := by
  have HC := Lib.hid (rcheck_any w _ p hv hp.2)
  by_cases hE : checkE p = 0
  case neg =>
    have hb := int_some hE
    have H : Hid (printR p = (⟨#[]⟩, checkE p)) := by show printR p = _; unfold printR; rw [if_neg hE]
    obtain ⟨A, c, rfl⟩ := hv.form
    clear hE hv
    go_enter Tryd.func16, Tryd.ntmps16
    go_wp2_with fail
    refine HC.out.mono ?_
    rintro e w' ⟨rfl, rfl⟩
    go_wp2_with fail
    go_ret2
    rw [H.out]
    exact ⟨rfl, Below.refl _ _⟩
  have hb := int_zero hE
  have H : Hid (printR p = (textOf p, 0)) := by show printR p = _; unfold printR; rw [if_pos hE]
  have HT := Lib.hid (rtext_any w v p hv hE)
  obtain ⟨A, c, rfl⟩ := hv.form
  clear hE hv
  go_enter Tryd.func16, Tryd.ntmps16
  go_wp2_with fail
  refine HC.out.mono ?_
  rintro e w' ⟨rfl, rfl⟩
  go_wp2_with fail
  refine HT.out.mono ?_
  rintro e w1 ⟨rfl, rfl⟩
  go_wp2_with fail
  go_ret2
  rw [H.out]
  exact ⟨rfl, Below.refl _ _⟩
end Go.Proofs.YtgfmfeaapffdfaaDoor

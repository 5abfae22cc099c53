/- The contracts of strings.Clone, paths.fresh and paths.checkAll. Conditions: the slices hold what is said of them, strings of at most 10^9 bytes. -/
import Derived.Test.YtgfmfeaapffdfaaDoorCheck
import Derived.Test.YtgfmfeaapffdfaaDoorShelf
import Derived.OwnWalk
import Derived.Laws.OwnMore
import Derived.Laws.MakeOwn
import Derived.Laws.AppendOwnNone
namespace Go.Proofs.YtgfmfeaapffdfaaDoor
open Go.RowKit

theorem info_str : (Tryd.prog.info? 9).map (fun i => (i.zero, i.size, i.bytes)) = some (some (.string ⟨#[]⟩), 1, 16) := by kernel_rfl
theorem info_parts {P : Program} {t : TypeId} {z : Value} {s b : Nat} (h : (P.info? t).map (fun i => (i.zero, i.size, i.bytes)) = some (some z, s, b)) : ∃ i, P.info? t = some i ∧ i.zero = some z ∧ i.size = s ∧ i.bytes = b := by
  cases hq : P.info? t with
  | none => rw [hq] at h; cases h
  | some i =>
    rw [hq] at h
    simp only [Option.map_some, Option.some.injEq, Prod.mk.injEq] at h
    exact ⟨i, rfl, h.1, h.2.1, h.2.2⟩
theorem own_below {W w2 : World} {base : Nat} {e : TypeId} {size n : Nat} {v : Value} {xs : List Value} (h : W.ownsRow base e size v n xs) (hb : Below W.heap.size W w2) : w2.ownsRow base e size v n xs :=
  h.kept (row := none) ⟨hb.os, hb.tape, hb.output, hb.size, fun k hk _ => hb.block k hk⟩ (by cases hvb : v.ownBlock with | none => exact .inl rfl | some g => exact .inr (by simp))
/-- A slice of strings of the call's own. -/
def OwnP (w : World) (base : Nat) (v : Value) (p : Path) : Prop := w.ownsRow base 9 1 v p.length (p.map encS)
theorem OwnP.row {w : World} {base : Nat} {v : Value} {p : Path} (h : OwnP w base v p) : w.ownsRow base 9 1 v p.length (p.map encS) := h
theorem OwnP.sl {w : World} {base : Nat} {v : Value} {p : Path} (h : OwnP w base v p) : SL encS w w.heap.size v p := SL.of_own rfl h
theorem OwnP.nil (w : World) (base : Nat) : OwnP w base (.slice none 0 0) [] := World.ownsRow_nil _ _ _ _
theorem OwnP.below {w w' : World} {base : Nat} {v : Value} {p : Path} (h : OwnP w base v p) (hb : Below w.heap.size w w') : OwnP w' base v p := own_below h hb
theorem OwnP.lower {w : World} {base base' : Nat} {v : Value} {p : Path} (h : OwnP w base v p) (hb : base' ≤ base) : OwnP w base' v p := by
  refine ⟨h.1, ?_⟩
  rcases h.2 with h | ⟨g, cap, cur, h1, h2, h3⟩
  · exact .inl h
  · exact .inr ⟨g, cap, cur, h1, by omega, h3⟩

set_option maxRecDepth 100000 in
set_option maxHeartbeats 1000000 in
theorem clone_any (w : World) (s : ByteArray) (hs : s.size ≤ 1000000000) :
    Calls Tryd.prog 51 #[.string s] w fun e w' => e = .returned (.string s) ∧ Below w.heap.size w w' := by
  have HC := Lib.hid (Tryd.stringslite_Clone s w (by omega))
  go_enter Tryd.func51, Tryd.ntmps51
  go_wp2_with (go_at_call 61; refine HC.out.mono ?_; rintro e w' ⟨rfl, hb⟩)
  go_ret
  exact ⟨rfl, hb⟩

/-- The first k strings of a path, and empty ones. -/
def part (p : Path) (k : Nat) : List Value := (p.take k).map encS ++ List.replicate (p.length - k) (.string ⟨#[]⟩)
theorem part_zero (p : Path) : part p 0 = List.replicate p.length (.string ⟨#[]⟩) := by simp [part]
theorem part_all (p : Path) : part p p.length = p.map encS := by simp [part]
theorem part_len (p : Path) (k : Nat) (h : k ≤ p.length) : (part p k).length = p.length := by simp [part]; omega
theorem part_at (p : Path) (k : Nat) (h : k < p.length) : (part p k)[k]? = some (.string ⟨#[]⟩) := by
  unfold part
  have hl : ((p.take k).map encS).length = k := by simp; omega
  rw [List.getElem?_append_right (by omega), hl, Nat.sub_self, show p.length - k = (p.length - k - 1) + 1 by omega, List.replicate_succ]; rfl
theorem part_set (p : Path) (k : Nat) (h : k < p.length) : (part p k).set k (.string p[k]) = part p (k + 1) := by
  unfold part
  have hl : ((p.take k).map encS).length = k := by simp; omega
  rw [List.set_append_right _ _ (by omega), hl, Nat.sub_self, show p.length - k = (p.length - (k + 1)) + 1 by omega, List.replicate_succ, List.set_cons_zero,
    List.take_succ_eq_append_getElem h, List.map_append, List.append_assoc]
  rfl
theorem made_str (n : Nat) : (madeCells #[Value.string ⟨#[]⟩] n).toList = List.replicate n (.string ⟨#[]⟩) := toList_madeCells_one _ _

set_option maxRecDepth 100000 in
set_option maxHeartbeats 2000000 in
theorem fresh_any (w : World) (v : Value) (p : Path) (hv : SL encS w w.heap.size v p) (hl : p.length ≤ 1000000) (hs : ∀ s ∈ p, s.size ≤ 1000000000) :
    Calls Tryd.prog 41 #[v] w fun e w' => ∃ v', e = .returned v' ∧ OwnP w' w.heap.size v' p ∧ Below w.heap.size w w' := by
  obtain ⟨A, c0, rfl⟩ := hv.form
  obtain ⟨i0, hi, hz0, hz1, hz2⟩ := info_parts info_str
  have HV := Lib.hid hv
  have HS := Lib.hid hs
  clear hv hs
  go_enter Tryd.func41, Tryd.ntmps41
  go_wp2_with (at_make; refine wpList_make_full _ rfl _ _ 22 rfl w.heap.size 9 i0 (.string ⟨#[]⟩) 1 Tryd.underlying22 hi hz0 hz1 _ _ _ _ p.length rfl rfl rfl rfl ?c1 ?c2 ?c3 ?_)
  case c1 => rw [hz2]; omega
  case c2 => unfold maxLen; omega
  case c3 => omega
  intro w1 hown hgrow
  rw [made_str, ← part_zero] at hown
  have hB1 : Below w.heap.size w w1 := (Below.refl _ _).grown hgrow (Nat.le_refl _) (by simp)
  have HO := Lib.hid hown
  have HB := Lib.hid hB1
  clear hown hgrow hB1
  go_wp2_with fail
  go_loopw [11] (fun i wr => ∃ k : Nat, k ≤ p.length ∧ i = .int .i64 k ∧ wr.ownsRow w.heap.size 9 1 (.slice (some ⟨w.heap.size, 0, none⟩) p.length p.length) p.length (part p k) ∧ Below w.heap.size w wr) (fun i _ => p.length - (intOf i).toNat)
  case atStart => exact ⟨0, Nat.zero_le _, rfl, HO.out, HB.out⟩
  case round =>
    obtain ⟨k, hk, rfl, hown, hB⟩ := hrel
    by_cases hlt : k < p.length
    · obtain ⟨b, off, rfl, hb, hc⟩ := HV.out.at (by omega)
      have h0 := (hB.cell (p := ⟨b, off + k, none⟩) hb).trans (hc k hlt)
      simp only [encS] at h0
      have HC := Lib.hid (clone_any wr p[k] (HS.out _ (List.getElem_mem _)))
      have HO2 := Lib.hid hown
      have HB2 := Lib.hid hB
      have i1 : (k : Int) < (p.length : Int) := by omega
      clear hc hown hB HO HB
      go_wp2_with fail
      refine HC.out.mono ?_
      rintro e w2 ⟨rfl, hb2⟩
      have hown2 := own_below HO2.out hb2
      have hB2 := HB2.out.trans (hb2.mono HB2.out.size)
      have hcell := hown2.cellAt k (by omega)
      rw [part_at p k hlt] at hcell
      have hfz := hown2.frozenAt k
      have hst := hown2.stored k (.string p[k])
      rw [part_set p k hlt] at hst
      have HST := Lib.hid hst
      have HB3 := Lib.hid hB2
      clear hst hown2 hB2 hb2 HO2 HB2
      go_wp2_with fail
      go_roundw
      case rel => exact ⟨k + 1, by omega, by go_num, HST.out.1, HB3.out.setCell (Nat.le_refl _) _⟩
      case measure => simp [intOf]; omega
    · obtain rfl : k = p.length := by omega
      rw [part_all] at hown
      have HO2 := Lib.hid hown
      clear hown
      go_wp2_with fail
      go_ret
      exact ⟨_, rfl, HO2.out, hB⟩

/-! ### several paths -/
/-- The first path that is none says what is wrong. -/
def allE : List Path → Nat | [] => 0 | p :: r => if checkE p = 0 then allE r else checkE p
/-- A slice value that holds paths, in blocks below lim. -/
def LL (w : World) (lim : Nat) (v : Value) (l : List Path) : Prop :=
  (l = [] ∧ ∃ A c, v = .slice A 0 c) ∨
  ∃ b off c, v = .slice (some ⟨b, off, none⟩) l.length c ∧ b < lim ∧ ∀ i (h : i < l.length), ∃ u, w.cell? ⟨b, off + i, none⟩ = some u ∧ SL encS w lim u l[i]
theorem LL.below {w w' : World} {lim : Nat} {v : Value} {l : List Path} (h : LL w lim v l) {B : Nat} (hb : Below B w w') (hB : lim ≤ B) : LL w' lim v l := by
  rcases h with h | ⟨b, off, c, rfl, hl, hc⟩
  · exact .inl h
  · refine .inr ⟨b, off, c, rfl, hl, fun i hi => ?_⟩
    obtain ⟨u, h1, h2⟩ := hc i hi
    exact ⟨u, (hb.cell (p := ⟨b, _, none⟩) (show b < B by omega)).trans h1, h2.below hb hB⟩
theorem LL.mono {w : World} {lim lim' : Nat} {v : Value} {l : List Path} (h : LL w lim v l) (hl : lim ≤ lim') : LL w lim' v l := by
  rcases h with h | ⟨b, off, c, rfl, hb, hc⟩
  · exact .inl h
  · refine .inr ⟨b, off, c, rfl, by omega, fun i hi => ?_⟩
    obtain ⟨u, h1, h2⟩ := hc i hi
    exact ⟨u, h1, h2.mono hl⟩
theorem LL.form {w : World} {lim : Nat} {v : Value} {l : List Path} (h : LL w lim v l) : ∃ A c, v = .slice A l.length c := by
  rcases h with ⟨rfl, A, c, rfl⟩ | ⟨b, off, c, rfl, _⟩
  · exact ⟨A, c, rfl⟩
  · exact ⟨_, c, rfl⟩
theorem LL.at {w : World} {lim : Nat} {A : Option Addr} {c n : Nat} {l : List Path} (h : LL w lim (.slice A n c) l) (hne : 0 < l.length) :
    ∃ b off, A = some ⟨b, off, none⟩ ∧ b < lim ∧ ∀ i (h : i < l.length), ∃ u, w.cell? ⟨b, off + i, none⟩ = some u ∧ SL encS w lim u l[i] := by
  rcases h with ⟨rfl, _⟩ | ⟨b, off, c', e, hb, hc⟩
  · simp at hne
  · injection e with e1 _ _; exact ⟨b, off, e1, hb, hc⟩
theorem allE_step (l : List Path) (k : Nat) (h : k < l.length) (h0 : checkE l[k] = 0) : allE (l.drop k) = allE (l.drop (k + 1)) := by
  rw [List.drop_eq_getElem_cons h]; show (if checkE l[k] = 0 then _ else _) = _; rw [if_pos h0]
theorem allE_stop (l : List Path) (k : Nat) (h : k < l.length) (h0 : checkE l[k] ≠ 0) : allE (l.drop k) = checkE l[k] := by
  rw [List.drop_eq_getElem_cons h]; show (if checkE l[k] = 0 then _ else _) = _; rw [if_neg h0]

set_option maxRecDepth 100000 in
set_option maxHeartbeats 1000000 in
theorem checkAll_any (w : World) (v : Value) (l : List Path) (hv : LL w w.heap.size v l) (hl : l.length ≤ 1000000) (hs : ∀ p ∈ l, ∀ s ∈ p, s.size ≤ 1000000000) :
    Calls Tryd.prog 44 #[v] w fun e w' => e = .returned (.int .i64 (allE l : Nat)) ∧ w = w' := by
  obtain ⟨A, c, rfl⟩ := hv.form
  have HV := Lib.hid hv
  have HS := Lib.hid hs
  clear hv hs
  go_enter Tryd.func44, Tryd.ntmps44
  go_wp2_with fail
  go_loop [8] (fun i => ∃ k : Nat, k ≤ l.length ∧ i = .int .i64 k ∧ Hid (allE (l.drop k) = allE l)) (fun i => l.length - (intOf i).toNat)
  case atStart => exact ⟨0, Nat.zero_le _, rfl, by simp [Hid]⟩
  case round =>
    obtain ⟨k, hk, rfl, HR⟩ := hrel
    by_cases hlt : k < l.length
    · obtain ⟨b, off, rfl, hb, hc⟩ := HV.out.at (by omega)
      obtain ⟨u, h0, hu⟩ := hc k hlt
      have HC := Lib.hid (check_any w u l[k] hu (HS.out _ (List.getElem_mem _)))
      obtain ⟨A1, c1, rfl⟩ := hu.form
      clear hc hu
      by_cases hz : checkE l[k] = 0
      · have hb2 : (((checkE l[k] : Nat) : Int) != 0) = false := by rw [hz]; rfl
        have H2 := Lib.hid (allE_step l k hlt hz)
        clear hz
        go_wp2_with (go_at_call 19; refine HC.out.mono ?_; rintro e w' ⟨rfl, rfl⟩)
        go_round
        case rel => exact ⟨k + 1, by omega, by go_num, by show allE (l.drop (k + 1)) = allE l; rw [← H2.out, HR.out]⟩
        case measure => simp [intOf]; omega
      · have hb2 : (((checkE l[k] : Nat) : Int) != 0) = true := by rw [bne_iff_ne]; omega
        have H2 := Lib.hid (allE_stop l k hlt hz)
        clear hz
        go_wp2_with (go_at_call 19; refine HC.out.mono ?_; rintro e w' ⟨rfl, rfl⟩)
        go_ret
        exact ⟨ret_int (by rw [← HR.out, H2.out]), rfl⟩
    · have H2 : Hid (allE (l.drop k) = 0) := by show allE (l.drop k) = 0; rw [List.drop_of_length_le (by omega)]; rfl
      go_wp2_with fail
      go_ret
      exact ⟨ret_int (by rw [← HR.out, H2.out]; rfl), rfl⟩
end Go.Proofs.YtgfmfeaapffdfaaDoor

/- The contracts of the reference's hex, escaped and Quote. Condition: strings shorter than 10^9 bytes. -/
import Derived.Test.YtdkaogcimecfiaaDoorQuote
import Derived.Laws.CopyOwn
import Derived.Laws.OwnMore
import Derived.Lib.AppendStr
namespace Go.Proofs.YtdkaogcimecfiaaDoor
open Go.RowKit

theorem rhex_any (n : Nat) (h : n < 16) (w : World) :
    Calls Tryd.prog 63 #[.int .u8 (n : Int)] w fun e w' => e = .returned (.int .u8 (M.hexN n : Nat)) ∧ w = w' := by
  have d := hex_dig n h
  go_enter Tryd.func63, Tryd.ntmps63
  go_wp2_with fail
  go_ret
  exact ⟨rfl, rfl⟩
/-- A slice of bytes in one block as a string. -/
theorem conv_bytes (W : World) (b n : Nat) (y : List UInt8) (hn : n = y.length) (h : ∀ (i : Nat) (h : i < y.length), W.cell? ⟨b, i, none⟩ = some (.int .u8 (y[i].toNat : Int))) :
    Sem.run Tryd.prog (convert 38 9 (.slice (some ⟨b, 0, none⟩) n n)) W = .ok (.string ⟨y.toArray⟩) W := by
  subst hn
  have := run_convert_bytes_arg (P := Tryd.prog) W 38 5 Tryd.underlying38 Tryd.underlying5 b 0 y.length y.length (y.map fun c => (c.toNat : Int)) (by simp) (fun i hi => by
    rw [Nat.zero_add, h i hi]
    simp [List.getD_eq_getElem?_getD, hi]) 9 Tryd.underlying9
  rw [this, nums_str]
theorem conv_c (w : World) (c : UInt8) :
    Sem.run Tryd.prog (convert 38 9 (.slice (some ⟨w.heap.size, 0, none⟩) 1 1)) (w.alloc (.cells #[.int .u8 (c.toNat : Int)] 5)) = .ok (.string ⟨#[c]⟩) (w.alloc (.cells #[.int .u8 (c.toNat : Int)] 5)) :=
  conv_bytes _ _ 1 [c] rfl (fun i hi => by
    obtain rfl : i = 0 := by simp at hi; omega
    exact cell_one_new _ _ _ 0 _ rfl)
theorem conv_ab (w : World) (a b : Nat) (ha : a < 256) (hb : b < 256) :
    Sem.run Tryd.prog (convert 38 9 (.slice (some ⟨w.heap.size, 0, none⟩) 2 2)) (w.alloc (.cells #[.int .u8 (a : Int), .int .u8 (b : Int)] 5)) = .ok (.string ⟨[M.u a, M.u b].toArray⟩) (w.alloc (.cells #[.int .u8 (a : Int), .int .u8 (b : Int)] 5)) := by
  have ea : ((M.u a).toNat : Int) = (a : Int) := by unfold M.u; rw [UInt8.toNat_ofNat_of_lt' ha]
  have eb : ((M.u b).toNat : Int) = (b : Int) := by unfold M.u; rw [UInt8.toNat_ofNat_of_lt' hb]
  refine conv_bytes _ _ 2 [M.u a, M.u b] rfl (fun i hi => ?_)
  have hc := cell_two_new w (.int .u8 (a : Int)) (.int .u8 (b : Int)) 5
  match i, hi with
  | 0, _ => show _ = some (Value.int .u8 ((M.u a).toNat : Int)); rw [ea]; exact hc 0 _ rfl
  | 1, _ => show _ = some (Value.int .u8 ((M.u b).toNat : Int)); rw [eb]; exact hc 1 _ rfl

set_option maxRecDepth 100000 in
set_option maxHeartbeats 1000000 in
theorem escaped_any (c : UInt8) (w : World) :
    Calls Tryd.prog 43 #[.int .u8 (c.toNat : Int)] w fun e w' => e = .returned (.string ⟨(M.esc c).toArray⟩) ∧ Below w.heap.size w w' := by
  cases hp : M.plainN c.toNat with
  | true =>
    have he : M.esc c = [c] := by unfold M.esc; rw [hp]; rfl
    have hP : plainB (c.toNat : Int) = true := by
      rw [← hp]; unfold plainB M.plainN; rw [Bool.eq_iff_iff]; simp; omega
    have HE := Lib.hid he
    have HP := Lib.hid hP
    have hcv := conv_c w c
    clear he hp hP
    go_enter Tryd.func43, Tryd.ntmps43
    go_wp2_with fail
    refine (rplain_any _ _).mono ?_
    rintro e w' ⟨rfl, rfl⟩
    rw [HP.out]
    go_wp2_with fail
    go_ret
    exact ⟨by rw [HE.out]; rfl, (Below.refl _ _).alloc (Nat.le_refl _) _⟩
  | false =>
    have hP : plainB (c.toNat : Int) = false := by
      rw [← hp]; unfold plainB M.plainN; rw [Bool.eq_iff_iff]; simp; omega
    have HP := Lib.hid hP
    clear hP
    have lit : ∀ (n : Int) (l : List UInt8), (n = 34 ∧ l = [92, 34]) ∨ (n = 92 ∧ l = [92, 92]) ∨ (n = 10 ∧ l = [92, 110]) ∨ (n = 13 ∧ l = [92, 114]) ∨ (n = 9 ∧ l = [92, 116]) → (c.toNat : Int) = n →
        Calls Tryd.prog 43 #[.int .u8 n] w fun e w' => e = .returned (.string ⟨l.toArray⟩) ∧ Below w.heap.size w w' := by
      intro n l h hc
      rw [hc] at HP
      rcases h with ⟨rfl, rfl⟩ | ⟨rfl, rfl⟩ | ⟨rfl, rfl⟩ | ⟨rfl, rfl⟩ | ⟨rfl, rfl⟩
      all_goals
        clear hp hc
        go_enter Tryd.func43, Tryd.ntmps43
        go_wp2_with fail
        refine (rplain_any _ _).mono ?_
        rintro e w' ⟨rfl, rfl⟩
        rw [HP.out]
        go_wp2_with fail
        go_ret
        exact ⟨rfl, Below.refl _ _⟩
    have eu : ∀ n : Nat, c.toNat = n → c = UInt8.ofNat n := fun n h => by rw [← h]; simp
    by_cases h1 : c.toNat = 34
    · have := lit 34 [92, 34] (by simp) (by omega)
      rw [eu _ h1]; exact this
    by_cases h2 : c.toNat = 92
    · have := lit 92 [92, 92] (by simp) (by omega)
      rw [eu _ h2]; exact this
    by_cases h3 : c.toNat = 10
    · have := lit 10 [92, 110] (by simp) (by omega)
      rw [eu _ h3]; exact this
    by_cases h4 : c.toNat = 13
    · have := lit 13 [92, 114] (by simp) (by omega)
      rw [eu _ h4]; exact this
    by_cases h5 : c.toNat = 9
    · have := lit 9 [92, 116] (by simp) (by omega)
      rw [eu _ h5]; exact this
    have hl : M.letterN c.toNat = none := by unfold M.letterN; rw [if_neg h1, if_neg h2, if_neg h3, if_neg h4, if_neg h5]
    have he : M.esc c = [92, 120, M.u (M.hexN (c.toNat / 16)), M.u (M.hexN (c.toNat % 16))] := by unfold M.esc; rw [hp, hl]; rfl
    have hc := c.toNat_lt
    have hx1 : ∀ w, Calls Tryd.prog 63 #[.int .u8 ((c.toNat : Int) / 16)] w fun e w' => e = .returned (.int .u8 (M.hexN (c.toNat / 16) : Nat)) ∧ w = w' := fun w => rhex_any (c.toNat / 16) (by omega) w
    have hx2 : ∀ w, Calls Tryd.prog 63 #[.int .u8 ((c.toNat : Int) % 16)] w fun e w' => e = .returned (.int .u8 (M.hexN (c.toNat % 16) : Nat)) ∧ w = w' := fun w => rhex_any (c.toNat % 16) (by omega) w
    have hcv := conv_ab w (M.hexN (c.toNat / 16)) (M.hexN (c.toNat % 16)) (hexN_lt _ (by omega)) (hexN_lt _ (by omega))
    obtain ⟨t, ht⟩ : ∃ t : ByteArray, t = ⟨[M.u (M.hexN (c.toNat / 16)), M.u (M.hexN (c.toNat % 16))].toArray⟩ := ⟨_, rfl⟩
    have hts : t.size = 2 := by rw [ht]; rfl
    have hfs : (⟨#[92, 120]⟩ : ByteArray) ++ t = ⟨(M.esc c).toArray⟩ := by
      apply bs_inj
      rw [bs_app, ht, bs_mk, bs_mk, he]; rfl
    rw [← ht] at hcv
    have HFS := Lib.hid hfs
    have HX1 := Lib.hid hx1
    have HX2 := Lib.hid hx2
    have k1 : ((c.toNat : Int) == 34) = false := by rw [beq_eq_false_iff_ne]; omega
    have k2 : ((c.toNat : Int) == 92) = false := by rw [beq_eq_false_iff_ne]; omega
    have k3 : ((c.toNat : Int) == 10) = false := by rw [beq_eq_false_iff_ne]; omega
    have k4 : ((c.toNat : Int) == 13) = false := by rw [beq_eq_false_iff_ne]; omega
    have k5 : ((c.toNat : Int) == 9) = false := by rw [beq_eq_false_iff_ne]; omega
    have m1 : (c.toNat : Int) / 16 % 256 = (c.toNat : Int) / 16 := by omega
    have m2 : (c.toNat : Int) % 16 % 256 = (c.toNat : Int) % 16 := by omega
    clear hfs hx1 hx2 ht he hl hp lit eu h1 h2 h3 h4 h5 hc
    go_enter Tryd.func43, Tryd.ntmps43
    go_wp2_with fail
    refine (rplain_any _ _).mono ?_
    rintro e w' ⟨rfl, rfl⟩
    rw [HP.out]
    go_wp2_with fail
    refine (HX1.out _).mono ?_
    rintro e w' ⟨rfl, rfl⟩
    go_wp2_with fail
    refine (HX2.out _).mono ?_
    rintro e w' ⟨rfl, rfl⟩
    go_wp2_with fail
    go_ret
    exact ⟨by rw [← HFS.out]; rfl, (Below.refl _ _).alloc (Nat.le_refl _) _⟩
theorem own_stays {W w2 : World} {base : Nat} {e : TypeId} {size n : Nat} {v : Value} {xs : List Value} (h : W.ownsRow base e size v n xs) (hb : Below W.heap.size W w2) : w2.ownsRow base e size v n xs :=
  h.kept (row := none) ⟨hb.os, hb.tape, hb.output, hb.size, fun k hk _ => hb.block k hk⟩ (by cases hvb : v.ownBlock with | none => exact .inl rfl | some g => exact .inr (by simp))

set_option maxRecDepth 100000 in
set_option maxHeartbeats 1000000 in
theorem rquote_any (s : ByteArray) (w : World) (hs : s.size ≤ 1000000000) :
    Calls Tryd.prog 21 #[.string s] w fun e w' => e = .returned (.string ⟨(quoteL (bs s)).toArray⟩) ∧ Below w.heap.size w w' := by
  obtain ⟨i0, hi, hz0, hz1, hz2⟩ := info_parts info_u8
  have HL := Lib.hid (bs_len s)
  go_enter Tryd.func21, Tryd.ntmps21
  go_wp2_with fail
  go_loopw [3, 4] (fun v i wr => ∃ k : Nat, k ≤ s.size ∧ i = .int .i64 k ∧ Hid (wr.ownsRow w.heap.size 5 1 v (qpre [] (bs s) k).length (bvs (qpre [] (bs s) k))) ∧ Below w.heap.size w wr) (fun _ i _ => s.size - (intOf i).toNat)
  case atStart => exact ⟨0, Nat.zero_le _, rfl, World.ownsRow_lit (base := w.heap.size) w #[.int .u8 34] 1 (Nat.le_refl _) (by decide) rfl, (Below.refl _ _).alloc (Nat.le_refl _) _⟩
  case round =>
    obtain ⟨k, hk, rfl, HW, hB⟩ := hrel
    have hBs := hB.size
    by_cases hlt : k < s.size
    · go_wp2_with fail
      refine (escaped_any s[k] _).mono ?_
      rintro e w2 ⟨rfl, hb2⟩
      have hown2 := own_stays HW.out hb2
      have hB2 : Below w.heap.size w w2 := hB.trans (hb2.mono hBs)
      have hB2s := hB2.size
      have hlen := qpre_len [] (bs s) k (by rw [HL.out]; exact hs)
      have hel := M.esc_le s[k]
      obtain ⟨t, ht⟩ : ∃ t : ByteArray, t = ⟨(M.esc s[k]).toArray⟩ := ⟨_, rfl⟩
      have hts : t.size = (M.esc s[k]).length := by rw [← bs_len, ht]; rfl
      have htc : Lib.strCells t = bvs (M.esc s[k]) := by rw [ht]; rfl
      rw [← ht]
      have HTC := Lib.hid htc
      clear ht htc
      simp only [List.length_nil] at hlen
      go_wp2_with (at_builtin; refine Lib.wpList_append_own_string _ rfl _ _ 38 9 rfl w.heap.size 5 i0 Tryd.underlying38 Tryd.underlying9 hi hz0 hz1 hz2 _ _ _ rfl hown2 t rfl ?c1 ?c2 ?c3 ?_)
      case c1 => unfold maxLen; omega
      case c2 => omega
      case c3 => omega
      intro v3 w3 hown3 hgrow _
      have hB3 : Below w.heap.size w w3 := hB2.grown hgrow (by omega) (fun g hg => (hown2.lt g hg).1)
      rw [HTC.out, ← bvs_app, ← List.length_append, ← qpre_next [] s k hlt] at hown3
      have HO := Lib.hid hown3
      clear hgrow hown2 hown3 hts hel hlen
      go_wp2_with fail
      go_roundw
      case rel => exact ⟨k + 1, by omega, by go_num, HO, hB3⟩
      case measure => simp [intOf]; omega
    · obtain rfl : k = s.size := by omega
      have hlen := qpre_len [] (bs s) s.size (by rw [HL.out]; exact hs)
      simp only [List.length_nil] at hlen
      go_wp2_with (at_builtin; refine wpList_append_own _ rfl _ _ 38 rfl w.heap.size 5 i0 (.int .u8 0) 1 1 Tryd.underlying38 hi hz0 hz1 hz2 rfl (by decide) _ _ _ rfl (HW.out.alloc _) ⟨wr.heap.size, 0, none⟩ 1 1 [.int .u8 34] rfl rfl ?d1 ?d2 ?d3 ?d4 ?d5 ?_)
      case d1 => exact cell_one_new _ _ _
      case d2 => simp [Value.oneCell']
      case d3 => unfold maxLen; omega
      case d4 => omega
      case d5 => simp; omega
      intro v2 w2 hown2 hgrow _
      have hB3 : Below w.heap.size w w2 := (hB.alloc (by omega) _).grown hgrow (by simp; omega) (fun g hg => (HW.out.lt g hg).1)
      have e2 : qpre [] (bs s) s.size ++ [34] = quoteL (bs s) := by
        unfold qpre quoteL
        rw [List.take_of_length_le (by rw [HL.out]; omega)]; simp
      have hown3 : w2.ownsRow w.heap.size 5 1 v2 (quoteL (bs s)).length (bvs (quoteL (bs s))) := by
        rw [← e2, List.length_append, bvs_app]; exact hown2
      have hst := str_own rfl hown3
      clear hgrow hown2 hown3 e2
      go_wp2_with fail
      go_ret
      exact ⟨rfl, hB3⟩
end Go.Proofs.YtdkaogcimecfiaaDoor

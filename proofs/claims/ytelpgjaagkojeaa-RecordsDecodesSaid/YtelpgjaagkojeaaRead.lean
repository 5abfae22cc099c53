/- The contracts of the reader of package records: take, groups, counted. Conditions: the reader's cell holds a slice that holds the bytes, which lie below the reader. -/
import Derived.Test.YtelpgjaagkojeaaVal
namespace Go.Proofs.Ytelpgjaagkojeaa
open Go.RowKit

/-- The reader's block holds what is not yet read. -/
def RB (w : World) (p lim : Nat) (y : List UInt8) : Prop := ∃ rv, Blk w p #[rv] 64 ∧ SL encB w lim rv y
theorem SL.grown {α : Type} {enc : α → Value} {w w' : World} {lim p : Nat} {v : Value} {l : List α} (h : SL enc w lim v l) (hl : lim ≤ w.heap.size) (hg : w.grownBy w' (some p)) (hp : lim ≤ p) : SL enc w' lim v l := by
  rcases h with h | ⟨b, off, c, rfl, hb, hcap, hc⟩
  · exact .inl h
  · exact .inr ⟨b, off, c, rfl, hb, hcap, fun i hi => (World.cell?_of_block (w := w) (a := ⟨b, off + i, none⟩) (hg.block b (by omega) (fun e => by have := Option.some.inj e; omega))).trans (hc i hi)⟩
/-- What take hands back. -/
def TkE (w : World) (p lim : Nat) (y : List UInt8) (n : Nat) (e : Ending) (w' : World) : Prop :=
  (y.length < n ∧ e = .returned (.tuple #[.slice none 0 0, .int .i64 10]) ∧ w = w') ∨
  (n ≤ y.length ∧ ∃ v, e = .returned (.tuple #[v, .int .i64 0]) ∧ SL encB w' lim v (y.take n) ∧ RB w' p lim (y.drop n) ∧ w.grownBy w' (some p))
set_option maxRecDepth 100000 in
set_option maxHeartbeats 1000000 in
theorem take_any (w : World) (p lim : Nat) (y : List UInt8) (n : Nat) (hr : RB w p lim y) (hp : lim ≤ p) (_hy : y.length ≤ 9223372036854775807) (hn : n ≤ 9223372036854775807) :
    Calls Try.prog 49 #[.pointer (some ⟨p, 0, none⟩), .int .i64 (n : Int)] w fun e w' => TkE w p lim y n e w' := by
  obtain ⟨rv, hB, hv⟩ := hr
  obtain ⟨A, c0, rfl⟩ := hv.form
  have hcell := hB.cell 0 rfl
  have hfz := hB.free 0
  have HB := Lib.hid hB
  have HV := Lib.hid hv
  have hplt := hB.lt
  clear hB hv
  by_cases hlt : y.length < n
  · have hltI : (y.length : Int) < (n : Int) := by omega
    go_enter Try.func49, Try.ntmps49
    go_wp2_with fail
    go_ret2
    exact .inl ⟨hlt, rfl, rfl⟩
  · have hltI : ¬ (y.length : Int) < (n : Int) := by omega
    have hcap := HV.out.cap
    have hnc : (n : Int) ≤ (c0 : Int) := by omega
    have HF := Lib.hid (HV.out.first (k := n) (by omega))
    have HR := Lib.hid (HV.out.rest (k := n) (by omega))
    by_cases hcn : c0 = n
    · rw [if_pos hcn] at HR
      subst hcn
      go_enter Try.func49, Try.ntmps49
      go_wp2_with fail
      go_ret2
      exact .inr ⟨by omega, _, rfl, HF.out.grown (by omega) (grown_setCell _ _ _ _) hp, ⟨_, HB.out.set 0 _, by have := HR.out; rw [Nat.sub_self, show y.length - c0 = 0 by omega] at this; exact this.grown (by omega) (grown_setCell _ _ _ _) hp⟩, grown_setCell _ _ _ _⟩
    · rw [if_neg hcn] at HR
      go_enter Try.func49, Try.ntmps49
      go_wp2_with fail
      go_ret2
      exact .inr ⟨by omega, _, rfl, HF.out.grown (by omega) (grown_setCell _ _ _ _) hp, ⟨_, HB.out.set 0 _, HR.out.grown (by omega) (grown_setCell _ _ _ _) hp⟩, grown_setCell _ _ _ _⟩
theorem and127_all : ((List.range 256).all fun n => decide (bits .and .u8 ((n : Nat) : Int) 127 = ((n % 128 : Nat) : Int))) = true := by decide +kernel
theorem and127 (n : Nat) (h : n < 256) : bits .and .u8 (n : Int) 127 = ((n % 128 : Nat) : Int) := by
  have := List.all_eq_true.1 and127_all n (List.mem_range.2 h)
  simpa using this
theorem shl7 (m k : Nat) (h : m * 128 ^ k < 18446744073709551616) : IntKind.u64.wrap ((m : Int) * 2 ^ (7 * k)) = ((m * 128 ^ k : Nat) : Int) := by
  show ((m : Int) * 2 ^ (7 * k)) % 18446744073709551616 = ((m * 128 ^ k : Nat) : Int)
  have e : ((2 : Int) ^ (7 * k)) = ((128 ^ k : Nat) : Int) := by rw [Int.natCast_pow, Int.pow_mul]; rfl
  rw [e, ← Int.natCast_mul]
  omega
theorem wrap64 (n : Nat) (h : n < 18446744073709551616) : IntKind.u64.wrap (n : Int) = (n : Int) := by show (n : Int) % 18446744073709551616 = _; omega
theorem or7 (x m k : Nat) (hx : x < 128 ^ k) (h : m * 128 ^ k < 18446744073709551616) (hk : k ≤ 9) : bits .or .u64 (x : Int) ((m * 128 ^ k : Nat) : Int) = ((x + m * 128 ^ k : Nat) : Int) := by
  have h1 : 128 ^ k ≤ 128 ^ 9 := Nat.pow_le_pow_right (by omega) hk
  rw [u64_or_nat x _ (by omega) h]
  congr 1
  have e : (128 : Nat) ^ k = 2 ^ (7 * k) := by rw [Nat.pow_mul]
  rw [e] at hx ⊢
  have := Nat.two_pow_add_eq_or_of_lt (i := 7 * k) (b := x) hx m
  rw [Nat.mul_comm m, Nat.or_comm, ← this, Nat.add_comm]
theorem pg_end (f i acc : Nat) : Rm.pg (f + 1) i acc [] = (0, 0, 10) := rfl
theorem pg_at (f i acc : Nat) (y : List UInt8) (k : Nat) (h : k < y.length) : Rm.pg (f + 1) i acc (y.drop k) = if i = 9 ∧ 1 < y[k].toNat % 128 then (0, 0, 6) else
    if y[k].toNat < 128 then (if 0 < i ∧ y[k].toNat % 128 = 0 then (0, 0, 6) else (acc + y[k].toNat % 128 * 128 ^ i, i + 1, 0))
    else Rm.pg f (i + 1) (acc + y[k].toNat % 128 * 128 ^ i) (y.drop (k + 1)) := by
  rw [List.drop_eq_getElem_cons h]; rfl
/-- What groups hands back. -/
def GrE (w : World) (p lim : Nat) (y : List UInt8) (e : Ending) (w' : World) : Prop :=
  e = .returned (.tuple #[.int .u64 ((Rm.pgs y).1 : Int), .int .i64 ((Rm.pgs y).2.2 : Int)]) ∧ ((Rm.pgs y).2.2 = 0 → RB w' p lim (y.drop (Rm.pgs y).2.1)) ∧ w.grownBy w' (some p)
theorem GrE.of {w w' : World} {p lim n u e' : Nat} {y : List UInt8} {e : Ending} (h : Rm.pgs y = (n, u, e')) (he : e = .returned (.tuple #[.int .u64 (n : Int), .int .i64 (e' : Int)])) (h0 : e' = 0 → RB w' p lim (y.drop u)) (hg : w.grownBy w' (some p)) : GrE w p lim y e w' := by
  unfold GrE; rw [h]; exact ⟨he, h0, hg⟩
set_option maxRecDepth 100000 in
set_option maxHeartbeats 1000000 in
theorem groups_any (w : World) (p lim : Nat) (y : List UInt8) (hr : RB w p lim y) (hp : lim ≤ p) (hy : y.length ≤ 9223372036854775807) :
    Calls Try.prog 52 #[.pointer (some ⟨p, 0, none⟩)] w fun e w' => GrE w p lim y e w' := by
  obtain ⟨rv, hB, hv⟩ := hr
  obtain ⟨A, c0, rfl⟩ := hv.form
  have hcell := hB.cell 0 rfl
  have hfz := hB.free 0
  have HB := Lib.hid hB
  have HV := Lib.hid hv
  have hplt := hB.lt
  clear hB hv
  have hcap := HV.out.cap
  obtain ⟨m, hm⟩ : ∃ m, m = min y.length 10 := ⟨_, rfl⟩
  have HF : Hid (SL encB w lim (.slice A m c0) (y.take m)) := HV.out.first (by omega)
  have hmI : (m : Int) ≤ (c0 : Int) := by omega
  have hmm : min (y.length : Int) 10 = (m : Int) := by omega
  have hm10 : m ≤ 10 := by omega
  have hmy : m ≤ y.length := by omega
  have HM := Lib.hid hm
  clear hm
  go_enter Try.func52, Try.ntmps52
  go_wp2_with fail
  go_region
  go_wp2_with fail
  all_goals
    have hm' := HM.out
    first
    | (have hme : (m : Int) = 10 := by omega)
    | (have hme : (m : Int) = (y.length : Int) := by omega)
    clear hm' hmm
    go_loopw [4, 21] (fun v i wr => ∃ k : Nat, k ≤ m ∧ i = .int .i64 k ∧ wr = w.drew ∧ Hid ((∃ x : Nat, k ≤ 9 ∧ x < 128 ^ k ∧ v = .int .u64 (x : Int) ∧ Rm.pgs y = Rm.pg (10 - k) k x (y.drop k)) ∨ (k = 10 ∧ Rm.pgs y = (0, 0, 6)))) (fun _ i _ => m - (intOf i).toNat)
    case atStart => exact ⟨0, by omega, rfl, rfl, .inl ⟨0, by omega, by omega, rfl, rfl⟩⟩
    case round =>
      obtain ⟨k, hk, rfl, rfl, HR⟩ := hrel
      by_cases hlt : k < m
      · have hltI : (k : Int) < (m : Int) := by omega
        obtain ⟨b, off, hA, hb, hc⟩ : ∃ b off, A = some ⟨b, off, none⟩ ∧ b < lim ∧ ∀ i (h : i < y.length), w.cell? ⟨b, off + i, none⟩ = some (encB y[i]) := HV.out.at (by omega)
        subst hA
        have hcell2 := hc k (by omega)
        unfold encB at hcell2
        have hc8 := y[k].toNat_lt
        have hP := pg_at (9 - k) k 0 y k (by omega)
        clear hP
        rcases HR.out with ⟨x, h9, hx, rfl, hpg⟩ | ⟨h10, _⟩
        case inr => omega
        rw [show 10 - k = (9 - k) + 1 by omega, pg_at (9 - k) k x y k (by omega)] at hpg
        obtain ⟨c, hcc⟩ : ∃ c, c = y[k].toNat := ⟨_, rfl⟩
        rw [← hcc] at hcell2 hpg hc8
        have hc256 : c < 256 := hc8
        have h128 : 128 ^ k ≤ 128 ^ 9 := Nat.pow_le_pow_right (by omega) h9
        have hx64 : x < 18446744073709551616 := by omega
        have HAND := Lib.hid (and127 c hc256)
        have hfz2 : w.drew.frozen? ⟨p, 0, none⟩ = false := hfz
        have hcell3 : w.drew.cell? ⟨p, 0, none⟩ = some (.slice (some ⟨b, off, none⟩) y.length c0) := hcell
        have hcell4 : w.drew.cell? ⟨b, off + k, none⟩ = some (.int .u8 (c : Int)) := hcell2
        have hG : Hid (w.grownBy w.drew (some p)) := ⟨rfl, rfl, rfl, Nat.le_refl _, fun _ _ _ => rfl⟩
        clear hc hcc hc8 HR hcell hcell2 hfz
        by_cases hc1 : c < 128
        · have hc1I : (c : Int) < 128 := by omega
          have hmod : c % 128 = c := Nat.mod_eq_of_lt hc1
          by_cases hbad : (0 < k ∧ c = 0) ∨ (k = 9 ∧ 1 < c)
          · have HP : Hid (Rm.pgs y = (0, 0, 6)) := by
              show Rm.pgs y = (0, 0, 6)
              rw [hpg, hmod]
              rcases hbad with ⟨h1, h2⟩ | ⟨h1, h2⟩
              · subst h2; rw [if_neg (by omega), if_pos (by omega), if_pos ⟨h1, rfl⟩]
              · rw [if_pos ⟨h1, h2⟩]
            clear hpg hmod
            by_cases hk9 : k = 9
            · subst hk9
              rcases hbad with ⟨h1, rfl⟩ | ⟨_, h2⟩
              · go_wp2_with fail
                go_ret2
                exact GrE.of HP.out rfl (fun h => by simp at h) hG.out
              · have h2I : (1 : Int) < (c : Int) := by omega
                have h0I : ((c : Int) == 0) = false := by rw [beq_eq_false_iff_ne]; omega
                go_wp2_with fail
                go_ret2
                exact GrE.of HP.out rfl (fun h => by simp at h) hG.out
            · obtain ⟨h1, rfl⟩ : 0 < k ∧ c = 0 := by rcases hbad with h | h; exact h; omega
              have h1I : (0 : Int) < (k : Int) := by omega
              clear hbad
              go_wp2_with fail
              go_ret2
              exact GrE.of HP.out rfl (fun h => by simp at h) hG.out
          · have hmk : c * 128 ^ k < 18446744073709551616 := by
              by_cases hk9 : k = 9
              · subst hk9
                have : c * 128 ^ 9 ≤ 1 * 128 ^ 9 := Nat.mul_le_mul_right _ (by omega)
                omega
              · have h1 : 128 ^ k ≤ 128 ^ 8 := Nat.pow_le_pow_right (by omega) (by omega)
                have : c * 128 ^ k ≤ 127 * 128 ^ 8 := Nat.mul_le_mul (by omega) h1
                omega
            have HSH := Lib.hid (shl7 c k hmk)
            have HOR := Lib.hid (or7 x c k hx hmk h9)
            have HP : Hid (Rm.pgs y = (x + c * 128 ^ k, k + 1, 0)) := by
              show Rm.pgs y = _
              rw [hpg, hmod, if_neg (by omega), if_pos hc1, if_neg (by omega)]
            rw [hmod] at HAND
            have HRB := Lib.hid (HV.out.rest (k := k + 1) (by omega))
            have hkc : (k : Int) + 1 ≤ (c0 : Int) := by omega
            have hky : (k : Int) + 1 ≤ (y.length : Int) := by omega
            have HVAL : Hid (bits .or .u64 (x : Int) (IntKind.u64.wrap (IntKind.u64.wrap (bits .and .u8 (c : Int) 127) * 2 ^ (7 * k))) = ((x + c * 128 ^ k : Nat) : Int)) := by
              show bits .or .u64 (x : Int) (IntKind.u64.wrap (IntKind.u64.wrap (bits .and .u8 (c : Int) 127) * 2 ^ (7 * k))) = ((x + c * 128 ^ k : Nat) : Int)
              rw [HAND.out, wrap64 _ (by omega), HSH.out, HOR.out]
            have hcases : (k = 0) ∨ (0 < k ∧ k ≠ 9 ∧ c ≠ 0) ∨ (k = 9 ∧ c = 1) := by omega
            clear hpg hmk hmod hbad HAND HSH HOR
            rcases hcases with hq | hq | hq
            · have f1 : ¬ (0 : Int) < (k : Int) := by omega
              have f2 : ((k : Int) == 9) = false := by rw [beq_eq_false_iff_ne]; omega
              clear hq
              by_cases hcn : c0 = k + 1
              · rw [if_pos hcn, show c0 - (k + 1) = 0 by omega] at HRB
                have hcn' : (c0 : Int) = (k : Int) + 1 := by omega
                first
                | (exfalso; omega)
                | (go_wp2_with fail
                   go_ret2
                   exact GrE.of HP.out (by rw [HVAL.out]; rfl) (fun _ => ⟨_, (HB.out.drewN 1).set 0 _, (HRB.out.drewN 1).grown (by show lim ≤ w.heap.size; omega) (grown_setCell _ _ _ _) hp⟩) (grown_set hG.out 0 _))
              · rw [if_neg hcn] at HRB
                have hcn' : ¬ (c0 : Int) = (k : Int) + 1 := by omega
                first
                | (exfalso; omega)
                | (go_wp2_with fail
                   go_ret2
                   exact GrE.of HP.out (by rw [HVAL.out]; rfl) (fun _ => ⟨_, (HB.out.drewN 1).set 0 _, (HRB.out.drewN 1).grown (by show lim ≤ w.heap.size; omega) (grown_setCell _ _ _ _) hp⟩) (grown_set hG.out 0 _))
            · have f1 : (0 : Int) < (k : Int) := by omega
              have fc : ((c : Int) == 0) = false := by rw [beq_eq_false_iff_ne]; omega
              have f2 : ((k : Int) == 9) = false := by rw [beq_eq_false_iff_ne]; omega
              clear hq
              by_cases hcn : c0 = k + 1
              · rw [if_pos hcn, show c0 - (k + 1) = 0 by omega] at HRB
                have hcn' : (c0 : Int) = (k : Int) + 1 := by omega
                first
                | (exfalso; omega)
                | (go_wp2_with fail
                   go_ret2
                   exact GrE.of HP.out (by rw [HVAL.out]; rfl) (fun _ => ⟨_, (HB.out.drewN 1).set 0 _, (HRB.out.drewN 1).grown (by show lim ≤ w.heap.size; omega) (grown_setCell _ _ _ _) hp⟩) (grown_set hG.out 0 _))
              · rw [if_neg hcn] at HRB
                have hcn' : ¬ (c0 : Int) = (k : Int) + 1 := by omega
                first
                | (exfalso; omega)
                | (go_wp2_with fail
                   go_ret2
                   exact GrE.of HP.out (by rw [HVAL.out]; rfl) (fun _ => ⟨_, (HB.out.drewN 1).set 0 _, (HRB.out.drewN 1).grown (by show lim ≤ w.heap.size; omega) (grown_setCell _ _ _ _) hp⟩) (grown_set hG.out 0 _))
            · have f1 : (0 : Int) < (k : Int) := by omega
              have fc : ((c : Int) == 0) = false := by rw [beq_eq_false_iff_ne]; omega
              have f2 : ((k : Int) == 9) = true := by rw [beq_iff_eq]; omega
              have f3 : ¬ (1 : Int) < (c : Int) := by omega
              clear hq
              by_cases hcn : c0 = k + 1
              · rw [if_pos hcn, show c0 - (k + 1) = 0 by omega] at HRB
                have hcn' : (c0 : Int) = (k : Int) + 1 := by omega
                first
                | (exfalso; omega)
                | (go_wp2_with fail
                   go_ret2
                   exact GrE.of HP.out (by rw [HVAL.out]; rfl) (fun _ => ⟨_, (HB.out.drewN 1).set 0 _, (HRB.out.drewN 1).grown (by show lim ≤ w.heap.size; omega) (grown_setCell _ _ _ _) hp⟩) (grown_set hG.out 0 _))
              · rw [if_neg hcn] at HRB
                have hcn' : ¬ (c0 : Int) = (k : Int) + 1 := by omega
                first
                | (exfalso; omega)
                | (go_wp2_with fail
                   go_ret2
                   exact GrE.of HP.out (by rw [HVAL.out]; rfl) (fun _ => ⟨_, (HB.out.drewN 1).set 0 _, (HRB.out.drewN 1).grown (by show lim ≤ w.heap.size; omega) (grown_setCell _ _ _ _) hp⟩) (grown_set hG.out 0 _))
        · have hc1I : ¬ (c : Int) < 128 := by omega
          by_cases hk9 : k = 9
          · subst hk9
            have HP : Hid (Rm.pgs y = (0, 0, 6)) := by
              show Rm.pgs y = (0, 0, 6)
              rw [hpg]
              by_cases h : 1 < c % 128
              · rw [if_pos ⟨rfl, h⟩]
              · rw [if_neg (by omega), if_neg hc1]; rfl
            clear hpg
            go_wp2_with fail
            go_roundw
            case rel => exact ⟨10, by omega, by go_num, by first | rfl | trivial, .inr ⟨rfl, HP.out⟩⟩
            case measure => simp [intOf]; omega
          · have hmk : c % 128 * 128 ^ k < 18446744073709551616 := by
              have h1 : 128 ^ k ≤ 128 ^ 8 := Nat.pow_le_pow_right (by omega) (by omega)
              have : c % 128 * 128 ^ k ≤ 127 * 128 ^ 8 := Nat.mul_le_mul (by omega) h1
              omega
            have HSH := Lib.hid (shl7 (c % 128) k hmk)
            have HOR := Lib.hid (or7 x (c % 128) k hx hmk h9)
            have HP : Hid (Rm.pgs y = Rm.pg (9 - k) (k + 1) (x + c % 128 * 128 ^ k) (y.drop (k + 1))) := by
              show Rm.pgs y = _
              rw [hpg, if_neg (by omega), if_neg hc1]
            clear hpg hmk
            go_wp2_with fail
            go_roundw
            case rel =>
              refine ⟨k + 1, by omega, by go_num, by first | rfl | trivial, .inl ⟨x + c % 128 * 128 ^ k, by omega, ?_, ?_, by rw [show 10 - (k + 1) = 9 - k by omega]; exact HP.out⟩⟩
              · have : c % 128 * 128 ^ k ≤ 127 * 128 ^ k := Nat.mul_le_mul_right _ (by omega)
                rw [Nat.pow_succ]; omega
              · rw [HAND.out, wrap64 _ (by omega), HSH.out, HOR.out]
            case measure => simp [intOf]; omega
      · obtain rfl : k = m := by omega
        have hltI : ¬ ((k : Int) < (k : Int)) := by omega
        by_cases h10 : k = 10
        · subst h10
          have hpg : Hid (Rm.pgs y = (0, 0, 6)) := by
            rcases HR.out with ⟨x, h9, _⟩ | ⟨_, h⟩
            · omega
            · exact h
          clear HR
          go_wp2_with fail
          go_ret2
          exact GrE.of hpg.out rfl (fun h => by simp at h) ⟨rfl, rfl, rfl, Nat.le_refl _, fun _ _ _ => rfl⟩
        · have hkI : (k : Int) < 10 := by omega
          have hpg : Hid (Rm.pgs y = (0, 0, 10)) := by
            rcases HR.out with ⟨x, h9, hx, _, hpg⟩ | ⟨h, _⟩
            · have hm := HM.out
              rw [List.drop_of_length_le (by omega), show 10 - k = (9 - k) + 1 by omega, pg_end] at hpg
              exact hpg
            · omega
          clear HR
          first
          | (exfalso; omega)
          | (go_wp2_with fail
             go_ret2
             exact GrE.of hpg.out rfl (fun h => by simp at h) ⟨rfl, rfl, rfl, Nat.le_refl _, fun _ _ _ => rfl⟩)
end Go.Proofs.Ytelpgjaagkojeaa

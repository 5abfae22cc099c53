/- The walk of PathsRun: it returns true. Conditions: slices that hold paths, MaxLen's cell. -/
import Derived.Test.YtgfmfeaapffdfaaDoorLawSorts
import Derived.Deep.DeepCutAuto
namespace Go.Proofs.YtgfmfeaapffdfaaDoor
open Go.RowKit

/-- What the loop has counted in the first k. -/
def RunI (out : List Path) (q : Path) (k : Nat) (f la : Int) (m : Nat) : Prop :=
  (m = 0 ∧ f = -1 ∧ la = -1 ∧ ∀ i (h : i < out.length), i < k → un out[i] q = false) ∨
  (0 < m ∧ ∃ a : Nat, f = (a : Int) ∧ la = (a : Int) + (m : Int) - 1 ∧ a + m ≤ k ∧ ∀ i (h : i < out.length), i < k → un out[i] q = decide (a ≤ i ∧ i < a + m))
theorem un_self (q : Path) : un q q = true := (un_iff _ _).2 ⟨[], by simp⟩
section
variable {out : List Path} {q : Path} {k : Nat} {f la : Int} {m : Nat}
theorem RunI.no (h : RunI out q k f la m) (hk : k < out.length) (hu : un out[k] q = false) : RunI out q (k + 1) f la m := by
  rcases h with ⟨h1, h2, h3, h4⟩ | ⟨h1, a, h2, h3, h4, h5⟩
  · refine .inl ⟨h1, h2, h3, fun i hi hk2 => ?_⟩
    by_cases e : i = k
    · subst e; exact hu
    · exact h4 i hi (by omega)
  · refine .inr ⟨h1, a, h2, h3, by omega, fun i hi hk2 => ?_⟩
    by_cases e : i = k
    · subst e; rw [hu]; exact (decide_eq_false (by omega)).symm
    · exact h5 i hi (by omega)
theorem RunI.first (h : RunI out q k f la m) (hm : m = 0) (hk : k < out.length) (hu : un out[k] q = true) : RunI out q (k + 1) (k : Int) (k : Int) 1 := by
  rcases h with ⟨h1, h2, h3, h4⟩ | ⟨h1, _⟩
  · refine .inr ⟨by omega, k, rfl, by omega, by omega, fun i hi hk2 => ?_⟩
    by_cases e : i = k
    · subst e; rw [hu]; exact (decide_eq_true (by omega)).symm
    · rw [h4 i hi (by omega)]; exact (decide_eq_false (by omega)).symm
  · omega
theorem Asc.at (h : Asc out) {i j : Nat} (hij : i < j) (hj : j < out.length) : pl (out[i]'(by omega)) out[j] = true := List.pairwise_iff_getElem.1 h i j (by omega) hj hij
theorem RunI.more (ha : Asc out) (h : RunI out q k f la m) (hm : 0 < m) (hk : k < out.length) (hu : un out[k] q = true) : RunI out q (k + 1) f (k : Int) (m + 1) := by
  rcases h with ⟨h1, _⟩ | ⟨h1, a, h2, h3, h4, h5⟩
  · omega
  · have hak : a + m = k := by
      by_cases e : a + m = k
      · exact e
      · exfalso
        have hj : a + m < k := by omega
        have u1 := h5 a (by omega) (by omega)
        rw [decide_eq_true (by omega)] at u1
        have u2 := h5 (a + m) (by omega) hj
        rw [decide_eq_false (by omega)] at u2
        have u3 := un_between q _ _ _ u1 hu (ha.at (i := a) (j := a + m) (by omega) (by omega)) (ha.at hj hk)
        rw [u2] at u3; cases u3
    refine .inr ⟨by omega, a, h2, by omega, by omega, fun i hi hk2 => ?_⟩
    by_cases e : i = k
    · subst e; rw [hu]; exact (decide_eq_true (by omega)).symm
    · rw [h5 i hi (by omega)]
      by_cases c : a ≤ i ∧ i < a + m
      · rw [decide_eq_true c, decide_eq_true (by omega)]
      · rw [decide_eq_false c, decide_eq_false (by omega)]
theorem RunI.other (ha : Asc out) (h : RunI out q k f la m) (hm : 0 < m) (hk : k < out.length) : out[k] ≠ q := by
  rcases h with ⟨h1, _⟩ | ⟨h1, a, h2, h3, h4, h5⟩
  · omega
  · intro e
    have u1 := h5 a (by omega) (by omega)
    rw [decide_eq_true (by omega)] at u1
    have p1 := ha.at (i := a) (j := k) (by omega) hk
    rw [e] at p1
    have hne : out[a]'(by omega) ≠ q := by
      intro e2
      rw [e2, pl_irrefl] at p1; cases p1
    have p2 := un_least q _ u1 hne
    rw [pl_asymm _ _ p1] at p2; cases p2
theorem RunI.le (h : RunI out q k f la m) : m ≤ k ∧ -1 ≤ f ∧ f ≤ (k : Int) ∧ -1 ≤ la ∧ la ≤ (k : Int) := by
  rcases h with ⟨h1, h2, h3, _⟩ | ⟨h1, a, h2, h3, h4, _⟩
  · omega
  · omega
end
theorem sort_two {l out : List Path} {k : Nat} (h : SortIs l out k) : (k ≠ 0 ∧ out = []) ∨ (k = 0 ∧ l.length ≤ 500 ∧ allE l = 0 ∧ Asc out ∧ out.Perm l) := by
  rcases h with ⟨_, h1, h2⟩ | ⟨_, h1, h2, h3⟩ | ⟨_, _, _, h1, h2⟩ | ⟨h0, h1, h2, h3, h4⟩
  · exact .inl ⟨by omega, h1⟩
  · exact .inl ⟨by omega, h2⟩
  · exact .inl ⟨by omega, h1⟩
  · exact .inr ⟨h4, h0, h1, h2, h3⟩
theorem both0 {p q : Path} (hp : checkE p = 0) (hq : checkE q = 0) : bothE p q = 0 := by unfold bothE; rw [if_pos hp, hq]
set_option maxRecDepth 100000 in
set_option maxHeartbeats 8000000 in
theorem law_run (w : World) (v v2 : Value) (l : List Path) (q : Path) (hv : LL w w.heap.size v l) (hq : SL encS w w.heap.size v2 q) (hm : ML w) :
    Calls Tryd.prog 9 #[v, v2] w fun e w' => e = .returned (.bool true) ∧ Below w.heap.size w w' := by
  have HFA := Lib.hid (far_any w v l hv)
  have HLO := Lib.hid (long_any w v2 q hq)
  have HAW := Lib.hid (awake_any w hm)
  have HV := Lib.hid hv
  have HQ := Lib.hid hq
  have HM := Lib.hid hm
  obtain ⟨A, c, rfl⟩ := hv.form
  obtain ⟨A2, c2, rfl⟩ := hq.form
  clear hv hq hm
  cases hf : farB l with
  | true =>
    rw [hf] at HFA
    clear hf
    go_enter Tryd.func9, Tryd.ntmps9
    go_wp2_with (go_at_call 34; refine HFA.out.mono ?_; rintro e w' ⟨rfl, rfl⟩)
    refine HAW.out.mono ?_
    rintro e w' ⟨rfl, hb⟩
    have HBX := Lib.hid hb
    clear hb
    go_wp2_with fail
    go_ret
    exact ⟨rfl, HBX.out⟩
  | false =>
    have HN := Lib.hid (far_no hf)
    have HFI : Hid (∀ p ∈ l, Fit p) := fun p hp => long_fit ((far_no hf).2 p hp)
    rw [hf] at HFA
    clear hf
    cases hlo : longB q with
    | true =>
      rw [hlo] at HLO
      clear hlo
      go_enter Tryd.func9, Tryd.ntmps9
      go_wp2_with (first | (go_at_call 34; refine HFA.out.mono ?_; rintro e w' ⟨rfl, rfl⟩) | (go_at_call 11; refine HLO.out.mono ?_; rintro e w' ⟨rfl, rfl⟩))
      refine HAW.out.mono ?_
      rintro e w' ⟨rfl, hb⟩
      have HBX := Lib.hid hb
      clear hb
      go_wp2_with fail
      go_ret
      exact ⟨rfl, HBX.out⟩
    | false =>
      have HFQ := Lib.hid (long_fit hlo)
      have HCK := Lib.hid (check_any w _ q HQ.out (long_fit hlo).2)
      rw [hlo] at HLO
      clear hlo
      by_cases hz : checkE q = 0
      · have hb2 : (((checkE q : Nat) : Int) != 0) = false := by rw [hz]; rfl
        have HZ := Lib.hid hz
        clear hz
        go_enter Tryd.func9, Tryd.ntmps9
        go_wp2_with (first | (go_at_call 34; refine HFA.out.mono ?_; rintro e w' ⟨rfl, rfl⟩) | (go_at_call 11; refine HLO.out.mono ?_; rintro e w' ⟨rfl, rfl⟩) | (go_at_call 19; refine HCK.out.mono ?_; rintro e w' ⟨rfl, rfl⟩))
        have HSO := Lib.hid (sort_any w _ l HV.out (by have := HN.out.1; omega) HFI.out)
        refine HSO.out.mono ?_
        rintro e w1 ⟨u1, out, k1, rfl, hl1, hs1, hb1⟩
        have HL1 := Lib.hid hl1
        have HB1 := Lib.hid hb1
        have HST := Lib.hid (sort_two hs1)
        have HLV := Lib.hid (HV.out.next hb1)
        have HQ1 := Lib.hid (HQ.out.next hb1)
        have HM1 := Lib.hid (HM.out.next hb1)
        obtain ⟨D, d, rfl⟩ := hl1.form
        clear hl1 hb1 hs1 HSO HAW HFA HLO HCK
        rcases HST.out with ⟨hk, rfl⟩ | ⟨rfl, h500, hz, has, hpe⟩
        · have hb3 : (((k1 : Nat) : Int) != 0) = true := by rw [bne_iff_ne]; omega
          have HAW1 := Lib.hid (awake_any w1 HM1.out)
          clear hk HST
          go_wp2_with fail
          refine HAW1.out.mono ?_
          rintro e w' ⟨rfl, hb⟩
          have HBX := Lib.hid (HB1.out.trans (hb.mono HB1.out.size))
          clear hb
          go_wp2_with fail
          go_ret
          exact ⟨rfl, HBX.out⟩
        · have HAS := Lib.hid has
          have HPE := Lib.hid hpe
          have HAZ := Lib.hid (allE_zero l hz)
          have hol : out.length = l.length := hpe.length_eq
          have h5o : out.length ≤ 500 := by omega
          have HOL := Lib.hid hol
          have hne : (((out.length : Nat) : Int) != ((l.length : Nat) : Int)) = false := by rw [hol]; simp
          clear has hpe hz HST hol h500
          go_wp2_with fail
          go_loopw [7, 8, 9, 10] (fun s7 s8 s9 s10 wr => ∃ (k : Nat) (f la : Int) (m : Nat), k ≤ out.length ∧ s7 = .int .i64 f ∧ s8 = .int .i64 la ∧ s9 = .int .i64 (m : Int) ∧ s10 = .int .i64 (k : Int) ∧ Hid (RunI out q k f la m) ∧ Hid (Below w1.heap.size w1 wr)) (fun _ _ _ i _ => out.length - (intOf i).toNat)
          case atStart => exact ⟨0, -1, -1, 0, Nat.zero_le _, rfl, rfl, rfl, rfl, .inl ⟨rfl, rfl, rfl, fun i _ h => absurd h (by omega)⟩, Below.refl _ _⟩
          case round =>
            obtain ⟨k, f, la, m, hk, rfl, rfl, rfl, rfl, HR, HB⟩ := hrel
            by_cases hlt : k < out.length
            · go_upto_if 52 with fail
              go_cut [10] (fun s10 wx => s10 = .int .i64 (k : Int) ∧ Below w1.heap.size w1 wx)
              case first =>
                rcases k with _ | k
                · go_wp2_with fail
                  go_meet
                  case rel => exact ⟨rfl, HB.out⟩
                · obtain ⟨b2, off2, rfl, hb2l, hc2⟩ := (HL1.out.next HB.out).at (by omega)
                  have j1 : k < out.length := by omega
                  obtain ⟨u1, p1, hu1⟩ := hc2 k j1
                  obtain ⟨u2, p2, hu2⟩ := hc2 (k + 1) hlt
                  have m1 := HPE.out.mem_iff.1 (List.getElem_mem j1)
                  have m2 := HPE.out.mem_iff.1 (List.getElem_mem hlt)
                  have HC0 := pCompare_any wr.drew u1 u2 out[k] out[k + 1] (hu1.drewN 1) (hu2.drewN 1) (HFI.out _ m1) (HFI.out _ m2)
                  have ec : compR out[k] out[k + 1] = (-1, 0) := by
                    unfold compR
                    rw [if_pos (both0 (HAZ.out _ m1) (HAZ.out _ m2)), (pc_lt _ _).2 (HAS.out.at (i := k) (j := k + 1) (by omega) hlt)]
                  rw [ec] at HC0
                  have HC := Lib.hid HC0
                  obtain ⟨A3, c3, rfl⟩ := hu1.form
                  obtain ⟨A4, c4, rfl⟩ := hu2.form
                  have i4 : (k : Int) + 1 < (out.length : Int) := by omega
                  have i5 : (k : Int) < (out.length : Int) := by omega
                  have i6 : (k : Int) + 1 - 1 = (k : Int) := by omega
                  have i8 : ((k + 1 : Nat) : Int) = (k : Int) + 1 := by omega
                  have iw : IntKind.i64.wrap (k : Int) = (k : Int) := by rw [IntKind.wrap_i64]; omega
                  have iv : IntKind.i64.wrap ((k : Int) + 1) = (k : Int) + 1 := by rw [IntKind.wrap_i64]; omega
                  have in0 : (0 : Int) ≤ (k : Int) := by omega
                  have in1 : (0 : Int) ≤ (k : Int) + 1 := by omega
                  have in2 : (0 : Int) < (k : Int) + 1 := by omega
                  have it0 : (k : Int).toNat = k := by omega
                  have it1 : ((k : Int) + 1).toNat = k + 1 := by omega
                  clear hc2 hu1 hu2 m1 m2 ec HC0
                  rw [i8]
                  go_wp2_with fail
                  go_region_with (go_at_call 22; refine HC.out.mono ?_; rintro e w' ⟨rfl, hgr⟩)
                  all_goals
                    have HG := Lib.hid hgr
                    clear hgr
                    go_wp2_with fail
                    go_meet
                    case rel => exact ⟨by rw [i8], HB.out.drew.trans (HG.out.mono HB.out.size)⟩
              case rest =>
                obtain ⟨rfl, hb2⟩ := hcut
                have HB2 := Lib.hid hb2
                obtain ⟨b2, off2, rfl, hb2l, hc2⟩ := (HL1.out.next hb2).at (by omega)
                obtain ⟨u, p0, hu0⟩ := hc2 k hlt
                have m1 := HPE.out.mem_iff.1 (List.getElem_mem hlt)
                have HU0 := Lib.hid hu0
                have HQ2 := Lib.hid (HQ1.out.next hb2)
                have HFO : Hid (∀ x ∈ out, Fit x) := fun x hx => HFI.out x (HPE.out.mem_iff.1 hx)
                have HIN : Hid (l.any (fun x => decide (x = out[k])) = true) := List.any_eq_true.2 ⟨_, m1, decide_eq_true rfl⟩
                have hun := pUnder_any wc u _ out[k] q hu0 (HQ1.out.next hb2) (HFI.out _ m1) HFQ.out
                have ec : undR out[k] q = (un out[k] q, 0) := by unfold undR; rw [if_pos (both0 (HAZ.out _ m1) HZ.out)]
                rw [ec] at hun
                obtain ⟨A3, c3, rfl⟩ := hu0.form
                have i4 : (k : Int) < (out.length : Int) := by omega
                have hml := HR.out.le
                obtain ⟨hm1, hf1, hf2, hla1, hla2⟩ := hml
                clear hb2 hc2 hu0 m1 ec HB
                cases he : un out[k] q with
                | false =>
                  rw [he] at hun
                  have HU := Lib.hid hun
                  have HNQ : Hid (out[k] ≠ q) := fun e => by rw [e, un_self] at he; cases he
                  have HRN := Lib.hid (HR.out.no hlt he)
                  clear hun he
                  go_wp2_with fail
                  refine HU.out.mono ?_
                  rintro e w3 ⟨rfl, hb3⟩
                  have HB3 := Lib.hid (HB2.out.trans (hb3.mono HB2.out.size))
                  have HSA := same_any w3 _ _ out[k] q (HU0.out.next hb3) (HQ2.out.next hb3) (HFO.out _ (List.getElem_mem _)).1 HFQ.out.1
                  rw [decide_eq_false HNQ.out] at HSA
                  have HSA2 := Lib.hid HSA
                  have HU3 := Lib.hid (HU0.out.next hb3)
                  have p3 := (hb3.cell (p := ⟨b2, off2 + k, none⟩) hb2l).trans p0
                  have HV3 := Lib.hid (HLV.out.next HB3.out)
                  clear hb3 HSA
                  go_wp2_with fail
                  refine HSA2.out.mono ?_
                  rintro e w4 ⟨rfl, m4, rfl⟩
                  have HTH := there_any (w3.drewN m4) _ _ l out[k] HV3.out (HU3.out.drewN m4) (by have := HN.out.1; omega) (fun x hx => (HFI.out x hx).1) (HFO.out _ (List.getElem_mem _)).1
                  rw [HIN.out] at HTH
                  have HTH2 := Lib.hid HTH
                  have p4 : (w3.drewN m4).cell? ⟨b2, off2 + k, none⟩ = some (.slice A3 out[k].length c3) := p3
                  clear HTH
                  go_wp2_with fail
                  refine HTH2.out.mono ?_
                  rintro e w5 ⟨rfl, m5, rfl⟩
                  go_wp2_with fail
                  go_roundw
                  case rel => exact ⟨k + 1, f, la, m, by omega, rfl, rfl, rfl, by go_num, HRN.out, below_drewN HB3.out _⟩
                  case measure => simp [intOf]; omega
                | true =>
                  rw [he] at hun
                  have HU := Lib.hid hun
                  by_cases hm0 : m = 0
                  · have HRN := Lib.hid (HR.out.first hm0 hlt he)
                    have hf0 : f < 0 := by
                      rcases HR.out with ⟨_, h, _⟩ | ⟨h, _⟩
                      · omega
                      · omega
                    have hkk : ((k : Int) != (k : Int)) = false := by simp
                    subst hm0
                    clear hun he
                    by_cases hsm : out[k] = q
                    · have HSM := Lib.hid hsm
                      clear hsm
                      go_wp2_with fail
                      refine HU.out.mono ?_
                      rintro e w3 ⟨rfl, hb3⟩
                      have HB3 := Lib.hid (HB2.out.trans (hb3.mono HB2.out.size))
                      have HSA := same_any w3 _ _ out[k] q (HU0.out.next hb3) (HQ2.out.next hb3) (HFO.out _ (List.getElem_mem _)).1 HFQ.out.1
                      rw [decide_eq_true HSM.out] at HSA
                      have HSA2 := Lib.hid HSA
                      have HU3 := Lib.hid (HU0.out.next hb3)
                      have p3 := (hb3.cell (p := ⟨b2, off2 + k, none⟩) hb2l).trans p0
                      have HV3 := Lib.hid (HLV.out.next HB3.out)
                      clear hb3 HSA
                      go_wp2_with fail
                      refine HSA2.out.mono ?_
                      rintro e w4 ⟨rfl, m4, rfl⟩
                      have HTH := there_any (w3.drewN m4) _ _ l out[k] HV3.out (HU3.out.drewN m4) (by have := HN.out.1; omega) (fun x hx => (HFI.out x hx).1) (HFO.out _ (List.getElem_mem _)).1
                      rw [HIN.out] at HTH
                      have HTH2 := Lib.hid HTH
                      have p4 : (w3.drewN m4).cell? ⟨b2, off2 + k, none⟩ = some (.slice A3 out[k].length c3) := p3
                      clear HTH
                      go_wp2_with fail
                      refine HTH2.out.mono ?_
                      rintro e w5 ⟨rfl, m5, rfl⟩
                      go_wp2_with fail
                      go_roundw
                      case rel => exact ⟨k + 1, k, k, 1, by omega, rfl, rfl, by go_num, by go_num, HRN.out, below_drewN HB3.out _⟩
                      case measure => simp [intOf]; omega
                    · have HNQ := Lib.hid hsm
                      clear hsm
                      go_wp2_with fail
                      refine HU.out.mono ?_
                      rintro e w3 ⟨rfl, hb3⟩
                      have HB3 := Lib.hid (HB2.out.trans (hb3.mono HB2.out.size))
                      have HSA := same_any w3 _ _ out[k] q (HU0.out.next hb3) (HQ2.out.next hb3) (HFO.out _ (List.getElem_mem _)).1 HFQ.out.1
                      rw [decide_eq_false HNQ.out] at HSA
                      have HSA2 := Lib.hid HSA
                      have HU3 := Lib.hid (HU0.out.next hb3)
                      have p3 := (hb3.cell (p := ⟨b2, off2 + k, none⟩) hb2l).trans p0
                      have HV3 := Lib.hid (HLV.out.next HB3.out)
                      clear hb3 HSA
                      go_wp2_with fail
                      refine HSA2.out.mono ?_
                      rintro e w4 ⟨rfl, m4, rfl⟩
                      have HTH := there_any (w3.drewN m4) _ _ l out[k] HV3.out (HU3.out.drewN m4) (by have := HN.out.1; omega) (fun x hx => (HFI.out x hx).1) (HFO.out _ (List.getElem_mem _)).1
                      rw [HIN.out] at HTH
                      have HTH2 := Lib.hid HTH
                      have p4 : (w3.drewN m4).cell? ⟨b2, off2 + k, none⟩ = some (.slice A3 out[k].length c3) := p3
                      clear HTH
                      go_wp2_with fail
                      refine HTH2.out.mono ?_
                      rintro e w5 ⟨rfl, m5, rfl⟩
                      go_wp2_with fail
                      go_roundw
                      case rel => exact ⟨k + 1, k, k, 1, by omega, rfl, rfl, by go_num, by go_num, HRN.out, below_drewN HB3.out _⟩
                      case measure => simp [intOf]; omega
                  · have HNQ := Lib.hid (HR.out.other HAS.out (by omega) hlt)
                    have HRN := Lib.hid (HR.out.more HAS.out (by omega) hlt he)
                    have hf0 : ¬ f < 0 := by
                      rcases HR.out with ⟨h, _⟩ | ⟨_, a, h, _⟩
                      · exact absurd h hm0
                      · omega
                    clear hun he
                    go_wp2_with fail
                    refine HU.out.mono ?_
                    rintro e w3 ⟨rfl, hb3⟩
                    have HB3 := Lib.hid (HB2.out.trans (hb3.mono HB2.out.size))
                    have HSA := same_any w3 _ _ out[k] q (HU0.out.next hb3) (HQ2.out.next hb3) (HFO.out _ (List.getElem_mem _)).1 HFQ.out.1
                    rw [decide_eq_false HNQ.out] at HSA
                    have HSA2 := Lib.hid HSA
                    have HU3 := Lib.hid (HU0.out.next hb3)
                    have p3 := (hb3.cell (p := ⟨b2, off2 + k, none⟩) hb2l).trans p0
                    have HV3 := Lib.hid (HLV.out.next HB3.out)
                    clear hb3 HSA
                    go_wp2_with fail
                    refine HSA2.out.mono ?_
                    rintro e w4 ⟨rfl, m4, rfl⟩
                    have HTH := there_any (w3.drewN m4) _ _ l out[k] HV3.out (HU3.out.drewN m4) (by have := HN.out.1; omega) (fun x hx => (HFI.out x hx).1) (HFO.out _ (List.getElem_mem _)).1
                    rw [HIN.out] at HTH
                    have HTH2 := Lib.hid HTH
                    have p4 : (w3.drewN m4).cell? ⟨b2, off2 + k, none⟩ = some (.slice A3 out[k].length c3) := p3
                    clear HTH
                    go_wp2_with fail
                    refine HTH2.out.mono ?_
                    rintro e w5 ⟨rfl, m5, rfl⟩
                    go_wp2_with fail
                    go_roundw
                    case rel => exact ⟨k + 1, f, k, m + 1, by omega, rfl, rfl, by go_num, by go_num, HRN.out, below_drewN HB3.out _⟩
                    case measure => simp [intOf]; omega
            · obtain rfl : k = out.length := by omega
              have i4 : ¬ ((out.length : Int) < (out.length : Int)) := by omega
              have HAW1 := Lib.hid (awake_any wr (HM1.out.next HB.out))
              have hml := HR.out.le
              obtain ⟨hm1, hf1, hf2, hla1, hla2⟩ := hml
              have HBW := Lib.hid (HB1.out.trans (HB.out.mono HB1.out.size))
              by_cases hm0 : m = 0
              · subst hm0
                clear HL1 HLV HQ1
                go_wp2_with fail
                refine HAW1.out.mono ?_
                rintro e w' ⟨rfl, hb⟩
                have HBX := Lib.hid (HBW.out.trans (hb.mono HBW.out.size))
                clear hb
                go_wp2_with fail
                go_ret
                exact ⟨rfl, HBX.out⟩
              · have hmb : (((m : Nat) : Int) == 0) = false := by rw [beq_eq_false_iff_ne]; omega
                have hd : la - f + 1 = (m : Int) := by
                  rcases HR.out with ⟨h, _⟩ | ⟨_, a, h1, h2, _⟩
                  · exact absurd h hm0
                  · omega
                have hmm : ((m : Int) == (m : Int)) = true := by simp
                clear HL1 HLV HQ1
                go_wp2_with fail
                refine HAW1.out.mono ?_
                rintro e w' ⟨rfl, hb⟩
                have HBX := Lib.hid (HBW.out.trans (hb.mono HBW.out.size))
                clear hb
                go_wp2_with fail
                go_ret
                exact ⟨rfl, HBX.out⟩
      · have hb2 : (((checkE q : Nat) : Int) != 0) = true := by rw [bne_iff_ne]; omega
        clear hz
        go_enter Tryd.func9, Tryd.ntmps9
        go_wp2_with (first | (go_at_call 34; refine HFA.out.mono ?_; rintro e w' ⟨rfl, rfl⟩) | (go_at_call 11; refine HLO.out.mono ?_; rintro e w' ⟨rfl, rfl⟩) | (go_at_call 19; refine HCK.out.mono ?_; rintro e w' ⟨rfl, rfl⟩))
        refine HAW.out.mono ?_
        rintro e w' ⟨rfl, hb⟩
        have HBX := Lib.hid hb
        clear hb
        go_wp2_with fail
        go_ret
        exact ⟨rfl, HBX.out⟩
end Go.Proofs.YtgfmfeaapffdfaaDoor

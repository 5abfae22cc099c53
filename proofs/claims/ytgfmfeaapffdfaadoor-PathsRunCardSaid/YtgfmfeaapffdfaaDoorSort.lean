/- The contract of Sort. Conditions: the slice holds what is said of it; paths of at most 10^6 strings of at most 10^9 bytes. -/
import Derived.Test.YtgfmfeaapffdfaaDoorSortF
namespace Go.Proofs.YtgfmfeaapffdfaaDoor
open Go.RowKit

theorem allE_zero : ∀ (l : List Path), allE l = 0 → ∀ p ∈ l, checkE p = 0
  | [], _, p, hp => by simp at hp
  | q :: r, h, p, hp => by
    have h' : (if checkE q = 0 then allE r else checkE q) = 0 := h
    by_cases e : checkE q = 0
    · rw [if_pos e] at h'
      rcases List.mem_cons.1 hp with rfl | hp
      · exact e
      · exact allE_zero r h' p hp
    · rw [if_neg e] at h'; exact absurd h' e
theorem make_paths (W : World) (k : IntKind) (n : Nat) (hn : n ≤ 100000) : (Instr.makeSlice 44 (.int k (n : Int)) (.int k (n : Int))).run Tryd.prog W = .ok (.slice (some ⟨W.heap.size, 0, none⟩) n n) (W.alloc (.cells (madeCells #[.slice none 0 0] n) 22)) := by
  obtain ⟨i0, hi, hz0, hz1, hz2⟩ := info_parts info_path
  have hb : (i0.bytes : Int) * (n : Int) ≤ 281474976710656 := by rw [hz2]; omega
  have hr := run_make (P := Tryd.prog) W 44 22 i0 (.slice none 0 0) Tryd.underlying44 hi hz0 k k n n (by omega) (Int.le_refl _) hb (by omega)
  rw [hz1] at hr
  have hr2 : (Instr.makeSlice 44 (.int k (n : Int)) (.int k (n : Int))).run Tryd.prog W = .ok (.slice (some ⟨W.heap.size, 0, none⟩) n n) (W.alloc (.cells (madeCells (Value.slice none 0 0).cells n) 22)) := by simpa using hr
  exact hr2
theorem made_paths (n : Nat) : (madeCells #[Value.slice none 0 0] n).toList = List.replicate n (Value.slice none 0 0) := toList_madeCells_one _ _
theorem own_made (W : World) (n : Nat) (hn : n ≤ 500) : (W.alloc (.cells (madeCells #[.slice none 0 0] n) 22)).ownsRow W.heap.size 22 1 (.slice (some ⟨W.heap.size, 0, none⟩) n n) n (List.replicate n (.slice none 0 0)) := by
  rw [← made_paths]
  have hs : (madeCells #[Value.slice none 0 0] n).size = n := by rw [← Array.length_toList, made_paths, List.length_replicate]
  exact ⟨by rw [Array.length_toList, hs, Nat.mul_one], .inr ⟨W.heap.size, n, _, rfl, Nat.le_refl _, heap_alloc_new W _, Nat.le_refl _, by unfold maxLen; omega, by rw [hs, Nat.mul_one], by rw [Nat.mul_one, List.take_of_length_le (by rw [Array.length_toList, hs]; exact Nat.le_refl _)]⟩⟩
theorem set_next (us : List Value) (m : Nat) (v z : Value) : (us ++ List.replicate (m + 1) z).set us.length v = (us ++ [v]) ++ List.replicate m z := by
  rw [List.set_append_right _ _ (Nat.le_refl _), Nat.sub_self, List.replicate_succ, List.set_cons_zero, List.append_assoc]; rfl
theorem asc_of {l : List Path} (h : ∀ i (h : i + 1 < l.length), pl l[i] l[i + 1] = true) : Asc l := by
  induction l with
  | nil => exact List.Pairwise.nil
  | cons p r ih =>
    have hr := ih (fun i hi => h (i + 1) (by simp at hi ⊢; omega))
    refine asc_cons.2 ⟨?_, hr⟩
    cases r with
    | nil => intro y hy; simp at hy
    | cons q s =>
      have h0 := h 0 (by simp)
      intro y hy
      rcases List.mem_cons.1 hy with rfl | hy
      · exact h0
      · exact pl_trans _ _ _ h0 ((asc_cons.1 hr).1 y hy)
theorem not_nodup {l : List Path} {i : Nat} (h : i + 1 < l.length) (e : l[i] = l[i + 1]) : ¬ l.Nodup := by
  intro hn
  have h2 : l = l.take (i + 1) ++ l.drop (i + 1) := (List.take_append_drop _ l).symm
  rw [h2, List.nodup_append] at hn
  refine hn.2.2 l[i] (List.mem_take_iff_getElem.2 ⟨i, by omega, rfl⟩) l[i + 1] ?_ e
  rw [List.drop_eq_getElem_cons h]; exact List.mem_cons_self
set_option maxRecDepth 100000 in
set_option maxHeartbeats 8000000 in
theorem sort_any : SortC 35 := by
  intro w v l hv hl hs
  obtain ⟨A, c, rfl⟩ := hv.form
  have HV := Lib.hid hv
  have HS := Lib.hid hs
  have HCA := Lib.hid (checkAll_any w _ l hv hl (fun p hp => (hs p hp).2))
  by_cases h5 : 500 < l.length
  · have i1 : (500 : Int) < (l.length : Int) := by omega
    have H : Hid (SortIs l [] 3) := .inl ⟨h5, rfl, rfl⟩
    clear hv hs h5
    go_enter Tryd.func35, Tryd.ntmps35
    go_wp2_with fail
    go_ret2
    exact ⟨_, [], 3, rfl, .inl ⟨rfl, _, _, rfl⟩, H.out, Below.refl _ _⟩
  have i1 : ¬ (500 : Int) < (l.length : Int) := by omega
  have h5' : l.length ≤ 500 := by omega
  clear hv hs h5
  by_cases hz : allE l = 0
  · have hb2 : (((allE l : Nat) : Int) != 0) = false := by rw [hz]; rfl
    have HE := Lib.hid hz
    have hmk := fun W => make_paths W .i64 l.length (by omega)
    have HO0 := Lib.hid (own_made w l.length h5')
    have HB0 : Hid (Below w.heap.size w (w.alloc (.cells (madeCells #[.slice none 0 0] l.length) 22))) := (Below.refl _ _).alloc (Nat.le_refl _) _
    clear hz
    go_enter Tryd.func35, Tryd.ntmps35
    go_wp2_with (go_at_call 44; refine HCA.out.mono ?_; rintro e w' ⟨rfl, rfl⟩)
    go_loopw [22] (fun i wr => ∃ (k : Nat) (us : List Value), k ≤ l.length ∧ i = .int .i64 (k : Int) ∧ Hid (us.length = k) ∧ Hid (wr.ownsRow w.heap.size 22 1 (.slice (some ⟨w.heap.size, 0, none⟩) l.length l.length) l.length (us ++ List.replicate (l.length - k) (.slice none 0 0))) ∧ Hid (∀ i (h1 : i < us.length) (h2 : i < l.length), OwnP wr (w.heap.size + 1) us[i] l[i]) ∧ Hid (Below w.heap.size w wr)) (fun i _ => l.length - (intOf i).toNat)
    case atStart => exact ⟨0, [], Nat.zero_le _, rfl, rfl, HO0.out, (fun i h => by simp at h), HB0.out⟩
    case round =>
      clear HO0 HB0 hmk
      obtain ⟨k, us, hk, rfl, HUL, HO, HP, HB⟩ := hrel
      by_cases hlt : k < l.length
      · obtain ⟨b, off, rfl, hb, hc⟩ := (HV.out.next HB.out).at (by omega)
        obtain ⟨u, h0, hu⟩ := hc k hlt
        have HF := Lib.hid (fresh_any wr u l[k] hu (HS.out _ (List.getElem_mem _)).1 (HS.out _ (List.getElem_mem _)).2)
        obtain ⟨A1, c1, rfl⟩ := hu.form
        have i4 : (k : Int) < (l.length : Int) := by omega
        have hgw : w.heap.size < wr.heap.size := (World.ownsRow.lt HO.out w.heap.size rfl).2
        clear hc hu
        go_wp2_with fail
        refine HF.out.mono ?_
        rintro e w2 ⟨v2, rfl, ho, hb2⟩
        obtain ⟨A2, c2, rfl⟩ := ho.sl.form
        obtain ⟨m, hm⟩ : ∃ m, l.length - k = m + 1 := ⟨l.length - k - 1, by omega⟩
        have how := own_below HO.out hb2
        rw [hm] at how
        have hcell := World.ownsRow.cellAt how k (by omega)
        rw [List.getElem?_append_right (by rw [HUL.out]; exact Nat.le_refl _), HUL.out, Nat.sub_self, List.replicate_succ, List.getElem?_cons_zero] at hcell
        have hfr := World.ownsRow.frozenAt how k
        have hst := (World.ownsRow.stored how k (.slice A2 l[k].length c2)).1
        have hsn := set_next us m (.slice A2 l[k].length c2) (.slice none 0 0)
        rw [HUL.out] at hsn
        rw [hsn, show m = l.length - (k + 1) by omega] at hst
        have hgs := (World.ownsRow.stored how k (.slice A2 l[k].length c2)).2
        have HST := Lib.hid hst
        have HPN : Hid (∀ i (h1 : i < (us ++ [Value.slice A2 l[k].length c2]).length) (h2 : i < l.length), OwnP (w2.setCell ⟨w.heap.size, k, none⟩ (.slice A2 l[k].length c2)) (w.heap.size + 1) (us ++ [Value.slice A2 l[k].length c2])[i] l[i]) := by
          intro i h1 h2
          by_cases hi : i < us.length
          · rw [List.getElem_append_left hi]
            exact ((HP.out i hi h2).below hb2).kept hgs (by omega)
          · have e : i = k := by simp at h1; have := HUL.out; omega
            subst e
            rw [List.getElem_append_right (by omega)]
            have := ((ho.lower (base' := w.heap.size + 1) (by omega)).kept hgs (by omega))
            simpa using this
        have HBN : Hid (Below w.heap.size w (w2.setCell ⟨w.heap.size, k, none⟩ (.slice A2 l[k].length c2))) := (HB.out.trans (hb2.mono HB.out.size)).setCell (Nat.le_refl _) _
        have HUL2 : Hid ((us ++ [Value.slice A2 l[k].length c2]).length = k + 1) := by show _ = _; rw [List.length_append, HUL.out]; rfl
        clear how hst hsn hgs ho hb2 hm
        go_wp2_with fail
        go_roundw
        case rel => exact ⟨k + 1, _, by omega, by go_num, HUL2.out, HST.out, HPN.out, HBN.out⟩
        case measure => simp [intOf]; omega
      · obtain rfl : k = l.length := by omega
        have i4 : ¬ ((l.length : Int) < (l.length : Int)) := by omega
        have ho := HO.out
        rw [Nat.sub_self, List.replicate_zero, List.append_nil] at ho
        have HSF := Lib.hid (sortfunc_any wr w.heap.size w.heap.size l.length l.length us l ho HUL.out rfl h5' (fun i h1 h2 => ⟨HP.out i h1 h2, (HS.out _ (List.getElem_mem _)).1, ((checkE_zero _).1 (allE_zero l HE.out _ (List.getElem_mem _))).2⟩))
        clear ho HO HP
        go_wp2_with fail
        refine HSF.out.mono ?_
        rintro e w4 ⟨rfl, out, hLL, hperm, hso, hg⟩
        have hol : out.length = l.length := hperm.length_eq
        have HOL := Lib.hid hol
        have HB4 : Hid (Below w.heap.size w w4) := HB.out.grown hg HB.out.size (fun r e => by cases e; exact Nat.le_refl _)
        have HL4 := Lib.hid hLL
        have HPE := Lib.hid hperm
        have HSO := Lib.hid hso
        clear hLL hperm hso hg HSF HB
        go_wp2_with fail
        go_loopw [8] (fun i wr => ∃ k : Nat, 1 ≤ k ∧ k ≤ l.length + 1 ∧ i = .int .i64 (k : Int) ∧ Hid (∀ i (_ : i + 1 < k) (h : i + 1 < out.length), pl out[i] out[i + 1] = true) ∧ Hid (LL wr wr.heap.size (.slice (some ⟨w.heap.size, 0, none⟩) l.length l.length) out) ∧ Hid (Below w.heap.size w wr)) (fun i _ => l.length + 1 - (intOf i).toNat)
        case atStart => exact ⟨1, Nat.le_refl _, by omega, rfl, (fun i h => absurd h (by omega)), HL4.out, HB4.out⟩
        case round =>
          clear HL4 HB4
          obtain ⟨k, hk1, hk2, rfl, HA, HL, HB⟩ := hrel
          by_cases hlt : k < l.length
          · obtain ⟨k, rfl⟩ : ∃ k', k = k' + 1 := ⟨k - 1, by omega⟩
            obtain ⟨b2, off2, e2, hb2l, hc2⟩ := HL.out.at (by omega)
            cases e2
            have j1 : k < out.length := by omega
            have j2 : k + 1 < out.length := by omega
            obtain ⟨u1, p1, hu1⟩ := hc2 k j1
            obtain ⟨u2, p2, hu2⟩ := hc2 (k + 1) j2
            have m1 := HPE.out.mem_iff.1 (List.getElem_mem j1)
            have m2 := HPE.out.mem_iff.1 (List.getElem_mem j2)
            have HC := Lib.hid (compare_any wr.drew u1 u2 out[k] out[k + 1] (hu1.drewN 1) (hu2.drewN 1) (HS.out _ m1).1 (HS.out _ m2).1 ((checkE_zero _).1 (allE_zero l HE.out _ m1)).2 ((checkE_zero _).1 (allE_zero l HE.out _ m2)).2)
            obtain ⟨A1, c1, rfl⟩ := hu1.form
            obtain ⟨A2, c2, rfl⟩ := hu2.form
            rw [Nat.zero_add] at p1 p2
            have i4 : (k : Int) + 1 < (l.length : Int) := by omega
            have i5 : (k : Int) < (l.length : Int) := by omega
            have i6 : (k : Int) + 1 - 1 = (k : Int) := by omega
            have i8 : ((k + 1 : Nat) : Int) = (k : Int) + 1 := by omega
            have iw : IntKind.i64.wrap (k : Int) = (k : Int) := by rw [IntKind.wrap_i64]; omega
            have iv : IntKind.i64.wrap ((k : Int) + 1) = (k : Int) + 1 := by rw [IntKind.wrap_i64]; omega
            have in0 : (0 : Int) ≤ (k : Int) := by omega
            have in1 : (0 : Int) ≤ (k : Int) + 1 := by omega
            have it0 : (k : Int).toNat = k := by omega
            have it1 : ((k : Int) + 1).toNat = k + 1 := by omega
            obtain ⟨x, hx⟩ : ∃ x, x = pc out[k] out[k + 1] := ⟨_, rfl⟩
            rw [← hx] at HC
            have HX := Lib.hid hx
            clear hx hc2 hu1 hu2 m1 m2
            by_cases hz : x = 0
            · have hb : (x == 0) = true := by rw [beq_iff_eq]; exact hz
              have H8 : Hid (SortIs l [] 8) := .inr (.inr (.inl ⟨h5', HE.out, (fun hn => not_nodup j2 ((pc_zero _ _).1 (HX.out ▸ hz)) (HPE.out.nodup_iff.2 hn)), rfl, rfl⟩))
              clear hz
              rw [i8]
              go_wp2_with fail
              go_region_with (go_at_call 45; refine HC.out.mono ?_; rintro e w' ⟨rfl, hgr⟩)
              all_goals
                have HG := Lib.hid hgr.below
                clear hgr
                go_wp2_with fail
                go_ret2
                exact ⟨_, [], 8, rfl, .inl ⟨rfl, _, _, rfl⟩, H8.out, HB.out.drew.trans (HG.out.mono HB.out.size)⟩
            · have hb : (x == 0) = false := by rw [beq_eq_false_iff_ne]; exact hz
              have HNX : Hid (pl out[k] out[k + 1] = true) := by
                show _ = true
                cases e : pl out[k] out[k + 1] with
                | true => rfl
                | false => exact absurd (HX.out.trans ((pc_zero _ _).2 (pl_total _ _ e (HSO.out k (k + 1) (by omega) j2)))) hz
              clear hz
              rw [i8]
              go_wp2_with fail
              go_region_with (go_at_call 45; refine HC.out.mono ?_; rintro e w' ⟨rfl, hgr⟩)
              all_goals
                have HG := Lib.hid hgr.below
                have HLN := Lib.hid (LL.next (w := wr.drew) HL.out hgr.below)
                have HAN : Hid (∀ i (_ : i + 1 < k + 1 + 1) (h : i + 1 < out.length), pl out[i] out[i + 1] = true) := by
                  intro i h1 h2
                  by_cases e : i = k
                  · subst e; exact HNX.out
                  · exact HA.out i (by omega) h2
                clear hgr
                go_wp2_with fail
                go_roundw
                case rel => exact ⟨k + 1 + 1, by omega, by omega, by go_num, HAN.out, HLN.out, HB.out.drew.trans (HG.out.mono HB.out.size)⟩
                case measure => simp [intOf]; omega
          · have H9 : Hid (SortIs l out 0) := .inr (.inr (.inr ⟨h5', HE.out, asc_of (fun i h => HA.out i (by omega) h), HPE.out, rfl⟩))
            have i4 : ¬ ((k : Int) < (l.length : Int)) := by omega
            go_wp2_with fail
            go_ret2
            exact ⟨_, out, 0, rfl, HL.out, H9.out, HB.out⟩
  · have hb2 : (((allE l : Nat) : Int) != 0) = true := by rw [bne_iff_ne]; omega
    have H3 : Hid (SortIs l [] (allE l)) := .inr (.inl ⟨h5', hz, rfl, rfl⟩)
    clear hz
    go_enter Tryd.func35, Tryd.ntmps35
    go_wp2_with (go_at_call 44; refine HCA.out.mono ?_; rintro e w' ⟨rfl, rfl⟩)
    go_ret2
    exact ⟨_, [], allE l, rfl, .inl ⟨rfl, _, _, rfl⟩, H3.out, Below.refl _ _⟩
end Go.Proofs.YtgfmfeaapffdfaaDoor

/- The contract of the reference's Parse. Condition: a string of at most 10^6 bytes. -/
import Derived.Test.YtgfmfeaapffdfaaDoorParse
namespace Go.Proofs.YtgfmfeaapffdfaaDoor
open Go.RowKit

theorem one_str {s : ByteArray} : ∀ u ∈ [Value.string s], u.oneCell' = true := by simp [Value.oneCell']
theorem OwnP.snoc {w' : World} {base : Nat} {v' : Value} {p : Path} {s : ByteArray} (h : w'.ownsRow base 9 1 v' (p.length + 1) (p.map encS ++ [.string s])) : OwnP w' base v' (p ++ [s]) := by
  unfold OwnP
  rw [List.length_append, List.map_append]; exact h
theorem ext_bs (s : ByteArray) (f k : Nat) : bs (s.extract f k) = ((bs s).drop f).take (k - f) := bs_extract s f k
theorem at_get (s : ByteArray) (k : Nat) (h : k < s.size) : (bs s)[k]? = some s[k] := by rw [List.getElem?_eq_getElem (by rw [bs_len]; exact h)]; rfl
theorem seg_end (s : ByteArray) (f : Nat) (hno : (47 : UInt8) ∉ ((bs s).drop f).take (s.size - f)) : segs ((bs s).drop f) = [bs (s.extract f s.size)] := by
  have e : ((bs s).drop f).take (s.size - f) = (bs s).drop f := List.take_of_length_le (by rw [List.length_drop, bs_len]; exact Nat.le_refl _)
  rw [ext_bs, e]; rw [e] at hno; exact segs_no _ hno
theorem byte_47 {c : UInt8} (h : ((c.toNat : Int) == 47) = true) : c = 47 := by
  rw [beq_iff_eq] at h
  exact UInt8.toNat_inj.1 (by show c.toNat = 47; omega)

set_option maxRecDepth 100000 in
set_option maxHeartbeats 4000000 in
theorem rparse_any (w : World) (s : ByteArray) (hs : s.size ≤ 1000000) :
    Calls Tryd.prog 14 #[.string s] w fun e w' => PathE w (parseR s) e w' := by
  by_cases h0 : s.size = 0
  · have H : Hid (parseR s = ([], 6)) := by show parseR s = _; unfold parseR; rw [if_pos h0]
    have e1 := toList_nil s h0
    go_enter Tryd.func14, Tryd.ntmps14
    go_wp2_with fail
    go_ret2
    rw [H.out]
    exact ⟨_, rfl, SL.nil _ _, Below.refl _ _⟩
  have hp : 0 < s.size := by omega
  have e1 := toList_ne s hp
  have e2 := toList_isEmpty_no s hp
  have e2' : (s.toList == []) = false := by simpa using e1
  cases h47 : ((s[0].toNat : Int) == 47) with
  | false =>
    have h47' : ((s[0].toNat : Int) != 47) = true := by rw [bne_iff_ne]; simpa using h47
    have H : Hid (parseR s = ([], 6)) := by
      show parseR s = _
      unfold parseR
      rw [if_neg h0, if_pos]
      rw [head_size h0]
      intro e
      injection e with e
      rw [e] at h47; revert h47; decide
    go_enter Tryd.func14, Tryd.ntmps14
    go_wp2_with fail
    go_ret2
    rw [H.out]
    exact ⟨_, rfl, SL.nil _ _, Below.refl _ _⟩
  | true =>
    have h47' : ((s[0].toNat : Int) != 47) = false := by rw [bne_eq_false_iff_eq]; simpa using h47
    have hc := byte_47 h47
    have hcons : bs s = 47 :: (bs s).tail := by
      have := bs_drop s 0 hp
      rw [List.drop_zero] at this
      rw [this, hc]; rfl
    have hpr : parseR s = if bs s = [47] then ([], 0) else if checkE (segsP s) = 0 then (segsP s, 0) else ([], checkE (segsP s)) := by
      unfold parseR
      rw [if_neg h0, if_neg (by rw [hcons]; simp)]
    by_cases ht : bs s = [47]
    · have H : Hid (parseR s = ([], 0)) := by show parseR s = _; rw [hpr, if_pos ht]
      have hl : s.toList = [47] := by rw [Lib.toList_data]; exact ht
      clear hcons hpr ht hc
      go_enter Tryd.func14, Tryd.ntmps14
      go_wp2_with fail
      go_ret2
      rw [H.out]
      exact ⟨_, rfl, SL.nil _ _, Below.refl _ _⟩
    have hl : (s.toList == [47]) = false := by rw [beq_eq_false_iff_ne, Lib.toList_data]; exact ht
    have hl' : s.toList ≠ [47] := by rw [Lib.toList_data]; exact ht
    have HPR : Hid (parseR s = if checkE (segsP s) = 0 then (segsP s, 0) else ([], checkE (segsP s))) := by show parseR s = _; rw [hpr, if_neg ht]
    have HT : Hid ((bs s).drop 1 = (bs s).tail) := by show (bs s).drop 1 = _; rw [List.drop_one]
    obtain ⟨i0, hi, hz0, hz1, hz2⟩ := info_parts info_str
    clear hcons hpr ht hc
    go_enter Tryd.func14, Tryd.ntmps14
    go_wp2_with fail
    go_loopw [4, 5, 6] (fun vo vf vk wr => ∃ (out : Path) (f k : Nat), OwnP wr w.heap.size vo out ∧ Below w.heap.size w wr ∧ vf = .int .i64 f ∧ vk = .int .i64 k ∧ out.length ≤ k ∧ (∀ x ∈ out, x.size ≤ 1000000000) ∧
      ((k ≤ s.size ∧ 1 ≤ f ∧ f ≤ k ∧ Hid ((47 : UInt8) ∉ ((bs s).drop f).take (k - f)) ∧ Hid (out.map bs ++ segs ((bs s).drop f) = segs ((bs s).drop 1))) ∨ (k = s.size + 1 ∧ f = s.size + 1 ∧ Hid (out.map bs = segs ((bs s).drop 1))))) (fun _ _ vk _ => s.size + 1 - (intOf vk).toNat)
    case atStart => exact ⟨[], 1, 1, OwnP.nil _ _, Below.refl _ _, rfl, rfl, by simp, by simp, .inl ⟨by omega, Nat.le_refl _, Nat.le_refl _, by simp [Hid], by simp [Hid]⟩⟩
    case round =>
      obtain ⟨out, f, k, hown, hB, rfl, rfl, hlen, hsz, (⟨hk, hf1, hfk, HNO, HEQ⟩ | ⟨rfl, rfl, HEQ⟩)⟩ := hrel
      · have HO := Lib.hid hown
        have HB := Lib.hid hB
        have HSZ := Lib.hid hsz
        have hBs := hB.size
        have i1 : (k : Int) ≤ (s.size : Int) := by omega
        have i2 : (f : Int) ≤ (k : Int) := by omega
        clear hown hB hsz
        have hc3 : out.length + 1 ≤ maxLen := by unfold maxLen; omega
        have hc4 : (out.length + 1) * 16 ≤ 140737488355328 := by omega
        have hc5 : ∀ o, w.heap.size ≤ (wr.alloc o).heap.size := fun o => by simp; omega
        by_cases hend : k = s.size
        · subst hend
          have hbq : ((s.size : Int) == (s.size : Int)) = true := by rw [beq_iff_eq]
          have HE2 : Hid ((out ++ [s.extract f s.size]).map bs = segs ((bs s).drop 1)) := by
            show List.map bs _ = _
            rw [← HEQ.out, seg_end s f HNO.out, List.map_append]; rfl
          have hx : (s.extract f s.size).size ≤ 1000000000 := by rw [ByteArray.size_extract]; omega
          have HX : Hid (∀ x ∈ out ++ [s.extract f s.size], x.size ≤ 1000000000) := fun x h => by
            rcases List.mem_append.1 h with h | h
            · exact HSZ.out x h
            · rw [List.mem_singleton.1 h]; exact hx
          clear hx
          go_wp2_with (at_builtin; refine wpList_append_own _ rfl _ _ 22 rfl w.heap.size 9 i0 (.string ⟨#[]⟩) 1 16 Tryd.underlying22 hi hz0 hz1 hz2 rfl (by decide) _ _ _ rfl (World.ownsRow.alloc HO.out.row _) ⟨wr.heap.size, 0, none⟩ 1 1 [.string (s.extract f s.size)] rfl rfl (cell_one_new _ _ _) one_str hc3 hc4 (hc5 _) ?_)
          intro v' w4 hown4 hgrow _
          have hB4 : Below w.heap.size w w4 := (HB.out.alloc HB.out.size _).grown hgrow (by simp; omega) (fun r e => (HO.out.row.lt r e).1)
          have HO4 := Lib.hid (OwnP.snoc hown4)
          have HB4 := Lib.hid hB4
          clear hown4 hgrow hB4
          go_wp2_with fail
          go_roundw
          case rel => exact ⟨_, s.size + 1, s.size + 1, HO4.out, HB4.out, by go_num, by go_num, by simp; omega, HX.out, .inr ⟨by omega, by omega, HE2.out⟩⟩
          case measure => simp [intOf]
        · have hbq : ((k : Int) == (s.size : Int)) = false := by rw [beq_eq_false_iff_ne]; omega
          have hlt : k < s.size := by omega
          cases hb : ((s[k].toNat : Int) == 47) with
          | true =>
            have hget : (bs s)[k]? = some 47 := by rw [at_get s k hlt, byte_47 hb]
            have hseg := segs_at (bs s) f k hfk hget HNO.out
            have HE2 : Hid ((out ++ [s.extract f k]).map bs ++ segs ((bs s).drop (k + 1)) = segs ((bs s).drop 1)) := by
              show List.map bs _ ++ _ = _
              rw [← HEQ.out, hseg, List.map_append, List.append_assoc, ← ext_bs]; rfl
            have hx : (s.extract f k).size ≤ 1000000000 := by rw [ByteArray.size_extract]; omega
            have HX : Hid (∀ x ∈ out ++ [s.extract f k], x.size ≤ 1000000000) := fun x h => by
              rcases List.mem_append.1 h with h | h
              · exact HSZ.out x h
              · rw [List.mem_singleton.1 h]; exact hx
            clear hx hget hseg
            go_wp2_with (at_builtin; refine wpList_append_own _ rfl _ _ 22 rfl w.heap.size 9 i0 (.string ⟨#[]⟩) 1 16 Tryd.underlying22 hi hz0 hz1 hz2 rfl (by decide) _ _ _ rfl (World.ownsRow.alloc HO.out.row _) ⟨wr.heap.size, 0, none⟩ 1 1 [.string (s.extract f k)] rfl rfl (cell_one_new _ _ _) one_str hc3 hc4 (hc5 _) ?_)
            intro v' w4 hown4 hgrow _
            have hB4 : Below w.heap.size w w4 := (HB.out.alloc HB.out.size _).grown hgrow (by simp; omega) (fun r e => (HO.out.row.lt r e).1)
            have HO4 := Lib.hid (OwnP.snoc hown4)
            have HB4 := Lib.hid hB4
            clear hown4 hgrow hB4
            go_wp2_with fail
            go_roundw
            case rel => exact ⟨_, k + 1, k + 1, HO4.out, HB4.out, by go_num, by go_num, by simp; omega, HX.out, .inl ⟨by omega, by omega, Nat.le_refl _, by simp [Hid], HE2.out⟩⟩
            case measure => simp [intOf]; omega
          | false =>
            have hget : (bs s)[k]? ≠ some 47 := fun e => by
              rw [at_get s k hlt] at e
              injection e with e
              rw [e] at hb; revert hb; decide
            have HN2 := Lib.hid (no_more (bs s) f k hfk hget HNO.out)
            clear hget
            go_wp2_with fail
            go_roundw
            case rel => exact ⟨out, f, k + 1, HO.out, HB.out, rfl, by go_num, by omega, HSZ.out, .inl ⟨by omega, hf1, by omega, HN2.out, HEQ.out⟩⟩
            case measure => simp [intOf]; omega
      · have hbq : ¬ ((s.size : Int) + 1 ≤ (s.size : Int)) := by omega
        have hseg : segsP s = out := by unfold segsP; rw [← HT.out, ← HEQ.out, mk_map_bs]
        have HPR2 := HPR.out
        rw [hseg] at HPR2
        have HP2 := Lib.hid HPR2
        have HCK := Lib.hid (rcheck_any wr u4 out hown.sl hsz)
        have HO := Lib.hid hown.sl
        have HB := Lib.hid hB
        clear hown hB hsz HPR2 hseg
        by_cases hE : checkE out = 0
        · have hb := int_zero hE
          have H : Hid (parseR s = (out, 0)) := by show parseR s = _; rw [HP2.out, if_pos hE]
          clear hE
          go_wp2_with fail
          refine HCK.out.mono ?_
          rintro e w' ⟨rfl, rfl⟩
          go_wp2_with fail
          go_ret2
          rw [H.out]
          exact ⟨_, rfl, HO.out, HB.out⟩
        · have hb := int_some hE
          have H : Hid (parseR s = ([], checkE out)) := by show parseR s = _; rw [HP2.out, if_neg hE]
          clear hE
          go_wp2_with fail
          refine HCK.out.mono ?_
          rintro e w' ⟨rfl, rfl⟩
          go_wp2_with fail
          go_ret2
          rw [H.out]
          exact ⟨_, rfl, SL.nil _ _, HB.out⟩
end Go.Proofs.YtgfmfeaapffdfaaDoor

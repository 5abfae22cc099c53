/- The contract of words.List. Conditions: the slice's cells hold what is said of them, it has fewer than 10^9 elements, and the variables that the library reads hold what their text lays. -/
import Derived.Test.YtdkaogcimecfiaaDoorListErr
import Derived.Lib.ItoaLen
namespace Go.Proofs.YtdkaogcimecfiaaDoor
open Go.RowKit

/-- Where the run of consecutive integers ends that goes on at k. -/
def reF : Nat → List Int → Nat → Nat
  | 0, _, k => k
  | f + 1, xs, k => if k + 1 < xs.length ∧ xs.getD (k + 1) 0 = xs.getD k 0 + 1 then reF f xs (k + 1) else k
theorem reF_more (f : Nat) : ∀ (xs : List Int) (k : Nat), xs.length ≤ k + 1 + f → ∀ g, f ≤ g → reF g xs k = reF f xs k := by
  induction f with
  | zero =>
    intro xs k h g _
    cases g with
    | zero => rfl
    | succ g => simp only [reF]; rw [if_neg (by omega)]
  | succ f ih =>
    intro xs k h g hg
    obtain ⟨g, rfl⟩ : ∃ g', g = g' + 1 := ⟨g - 1, by omega⟩
    simp only [reF]
    split
    · exact ih xs (k + 1) (by omega) g (by omega)
    · rfl
def runEnd (xs : List Int) (k : Nat) : Nat := reF xs.length xs k
theorem runEnd_next (xs : List Int) (k : Nat) (h1 : k + 1 < xs.length) (h2 : xs.getD (k + 1) 0 = xs.getD k 0 + 1) : runEnd xs k = runEnd xs (k + 1) := by
  unfold runEnd
  have : reF (xs.length + 1) xs k = reF xs.length xs k := reF_more xs.length xs k (by omega) _ (by omega)
  rw [← this]; simp only [reF]; rw [if_pos ⟨h1, h2⟩]
theorem runEnd_stop (xs : List Int) (k : Nat) (h : ¬ (k + 1 < xs.length ∧ xs.getD (k + 1) 0 = xs.getD k 0 + 1)) : runEnd xs k = k := by
  unfold runEnd
  cases hx : xs.length with
  | zero => rfl
  | succ n => simp only [reF]; rw [if_neg h]
theorem reF_ge (f : Nat) : ∀ (xs : List Int) (k : Nat), k ≤ reF f xs k ∧ (k < xs.length → reF f xs k < xs.length) := by
  induction f with
  | zero => intro xs k; exact ⟨Nat.le_refl _, fun h => h⟩
  | succ f ih =>
    intro xs k
    simp only [reF]
    split
    · rename_i h
      have := ih xs (k + 1)
      exact ⟨by omega, fun _ => this.2 h.1⟩
    · exact ⟨Nat.le_refl _, fun h => h⟩
theorem runEnd_ge (xs : List Int) (k : Nat) : k ≤ runEnd xs k := (reF_ge _ xs k).1
theorem runEnd_lt (xs : List Int) (k : Nat) (h : k < xs.length) : runEnd xs k < xs.length := (reF_ge _ xs k).2 h
/-- The text of a run. -/
def runText (xs : List Int) (k t : Nat) : List UInt8 := if k < t then Lib.itoa (xs.getD k 0) ++ (45 :: Lib.itoa (xs.getD t 0)) else Lib.itoa (xs.getD k 0)
/-- The texts of the runs from a place on. -/
def runsF : Nat → List Int → Nat → List (List UInt8)
  | 0, _, _ => []
  | f + 1, xs, k => if k < xs.length then runText xs k (runEnd xs k) :: runsF f xs (runEnd xs k + 1) else []
theorem runsF_more (f : Nat) : ∀ (xs : List Int) (k : Nat), xs.length ≤ k + f → ∀ g, f ≤ g → runsF g xs k = runsF f xs k := by
  induction f with
  | zero =>
    intro xs k h g _
    cases g with
    | zero => rfl
    | succ g => simp only [runsF]; rw [if_neg (by omega)]
  | succ f ih =>
    intro xs k h g hg
    obtain ⟨g, rfl⟩ : ∃ g', g = g' + 1 := ⟨g - 1, by omega⟩
    simp only [runsF]
    split
    · rw [ih xs (runEnd xs k + 1) (by have := runEnd_ge xs k; omega) g (by omega)]
    · rfl
def runs (xs : List Int) (k : Nat) : List (List UInt8) := runsF xs.length xs k
theorem runs_end (xs : List Int) (k : Nat) (h : xs.length ≤ k) : runs xs k = [] := by
  unfold runs
  cases hx : xs.length with
  | zero => rfl
  | succ n => simp only [runsF]; rw [if_neg (by omega)]
theorem runs_next (xs : List Int) (k : Nat) (h : k < xs.length) : runs xs k = runText xs k (runEnd xs k) :: runs xs (runEnd xs k + 1) := by
  unfold runs
  have : runsF (xs.length + 1) xs k = runsF xs.length xs k := runsF_more _ xs k (by omega) _ (by omega)
  rw [← this]; simp only [runsF]; rw [if_pos h]
/-- What List returns. -/
def listR (xs : List Int) : List UInt8 × Nat := if listE xs ≠ 0 then ([], listE xs) else if xs.length = 0 then ([45], 0) else (Lib.join (runs xs 0) [44], 0)
theorem listE_ok {xs : List Int} (h : listE xs = 0) : xs.length ≤ 500 ∧ (∀ i, i < xs.length → inR (xs.getD i 0)) ∧ ∀ i, i < xs.length - 1 → xs.getD i 0 < xs.getD (i + 1) 0 := by
  unfold listE at h
  split at h
  · simp at h
  · split at h
    · simp at h
    · split at h
      · simp at h
      · rename_i h1 h2 h3
        exact ⟨by omega, by simpa using h2, Decidable.not_not.1 h3⟩

/-- A list of strings as cells. -/
def svs (ys : List (List UInt8)) : List Value := ys.map fun y => .string ⟨y.toArray⟩
theorem svs_snoc (ys : List (List UInt8)) (y : List UInt8) : svs (ys ++ [y]) = svs ys ++ [.string ⟨y.toArray⟩] := by simp [svs]
theorem svs_get (ys : List (List UInt8)) (i : Nat) (h : i < ys.length) : (svs ys)[i]? = some (.string ⟨ys[i].toArray⟩) := by simp [svs, h]
theorem info_str : (Tryd.prog.info? 9).map (fun i => (i.zero, i.size, i.bytes)) = some (some (.string ⟨#[]⟩), 1, 16) := by kernel_rfl
/-- The decimal form as a string: a name that the walk does not open. -/
def dg (x : Int) : ByteArray := ⟨(Lib.itoa x).toArray⟩
theorem dg_bs (x : Int) : bs (dg x) = Lib.itoa x := rfl
theorem dg_size (x : Int) (h : inR x) : (dg x).size ≤ 21 := by
  rw [← bs_len, dg_bs]; exact Lib.itoa_length_le x (by have := h.1; omega) (by have := h.2; omega)
theorem runText_len (xs : List Int) (k t : Nat) (h1 : inR (xs.getD k 0)) (h2 : inR (xs.getD t 0)) : (runText xs k t).length ≤ 43 := by
  have a := Lib.itoa_length_le (xs.getD k 0) (by have := h1.1; omega) (by have := h1.2; omega)
  have b := Lib.itoa_length_le (xs.getD t 0) (by have := h2.1; omega) (by have := h2.2; omega)
  unfold runText
  split
  · simp only [List.length_append, List.length_cons]; omega
  · omega
theorem lens_le (ys : List (List UInt8)) (h : ∀ y ∈ ys, y.length ≤ 43) : Lib.lens ys ≤ 43 * ys.length := by
  induction ys with
  | nil => simp [Lib.lens]
  | cons y ys ih =>
    have := h y (by simp)
    have := ih fun z hz => h z (by simp [hz])
    simp [Lib.lens] at *
    omega
theorem join_len (ys : List (List UInt8)) (h : ∀ y ∈ ys, y.length ≤ 43) (hn : ys.length ≤ 501) : (Lib.join ys [44]).length ≤ 100000 := by
  cases ys with
  | nil => simp [Lib.join_nil]
  | cons y r =>
    rw [Lib.join_cons, List.length_append, Lib.joinTail_length]
    have := h y (by simp)
    have := lens_le r fun z hz => h z (by simp [hz])
    simp at *
    omega

theorem own_below {W w2 : World} {base : Nat} {e : TypeId} {size n : Nat} {v : Value} {xs : List Value} (h : W.ownsRow base e size v n xs) (hb : Below W.heap.size W w2) : w2.ownsRow base e size v n xs :=
  h.kept (row := none) ⟨hb.os, hb.tape, hb.output, hb.size, fun k hk _ => hb.block k hk⟩ (by cases hvb : v.ownBlock with | none => exact .inl rfl | some g => exact .inr (by simp))
theorem one_str {s : ByteArray} : ∀ u ∈ [Value.string s], u.oneCell' = true := by simp [Value.oneCell']

set_option maxRecDepth 100000 in
set_option maxHeartbeats 4000000 in
theorem list_any (w : World) (v : Value) (xs : List Int) (hv : IS w w.heap.size v xs) (hx : xs.length ≤ 1000000000) (E : Env w) :
    Calls Tryd.prog 29 #[v] w fun e w' => e = .returned (.tuple #[.string ⟨(listR xs).1.toArray⟩, .int .i64 ((listR xs).2 : Int)]) ∧ Below w.heap.size w w' := by
  have HLE := Lib.hid (listError_any w v xs hv hx)
  obtain ⟨A, c, rfl⟩ : ∃ A c, v = .slice A xs.length c := by
    rcases hv with ⟨rfl, A, c, rfl⟩ | ⟨b, off, c, rfl, _⟩
    · exact ⟨A, c, rfl⟩
    · exact ⟨_, c, rfl⟩
  by_cases he : listE xs = 0
  case neg =>
    have hfin : listR xs = ([], listE xs) := by unfold listR; rw [if_pos he]
    have H := Lib.hid hfin
    have hne : ((listE xs : Int) != 0) = true := by rw [bne_iff_ne]; omega
    clear hfin he
    go_enter Tryd.func29, Tryd.ntmps29
    go_wp2_with fail
    refine (HLE.out).mono ?_
    rintro e w' ⟨rfl, nd, rfl⟩
    go_wp2_with fail
    go_ret2
    exact ⟨by rw [H.out]; rfl, below_drewN (Below.refl _ _) _⟩
  rw [he] at HLE
  by_cases h0 : xs.length = 0
  · have hfin : listR xs = ([45], 0) := by unfold listR; rw [if_neg (by simp [he]), if_pos h0]
    have H := Lib.hid hfin
    rw [h0] at HLE ⊢
    clear hfin he hv
    go_enter Tryd.func29, Tryd.ntmps29
    go_wp2_with fail
    refine (HLE.out).mono ?_
    rintro e w' ⟨rfl, nd, rfl⟩
    go_wp2_with fail
    go_ret2
    exact ⟨by rw [H.out]; rfl, below_drewN (Below.refl _ _) _⟩
  obtain ⟨b, off, hA, hb, hc⟩ : ∃ b off, A = some ⟨b, off, none⟩ ∧ b < w.heap.size ∧ ∀ i, i < xs.length → w.cell? ⟨b, off + i, none⟩ = some (.int .i64 (xs.getD i 0)) := by
    rcases hv with ⟨h, _⟩ | ⟨b, off, c', e, hb, hc⟩
    · rw [h] at h0; simp at h0
    · injection e with e1 _ _; exact ⟨b, off, e1, hb, hc⟩
  subst hA
  obtain ⟨hlen, hin, _⟩ := listE_ok he
  have hfin : listR xs = (Lib.join (runs xs 0) [44], 0) := by unfold listR; rw [if_neg (by simp [he]), if_neg h0]
  have H := Lib.hid hfin
  have HC := Lib.hid hc
  have HIN := Lib.hid hin
  have HE := Lib.hid E
  have hEs := E.size
  obtain ⟨i0, hi, hz0, hz1, hz2⟩ := info_parts info_str
  clear hfin he hv hc hin
  go_enter Tryd.func29, Tryd.ntmps29
  go_wp2_with fail
  refine (HLE.out).mono ?_
  rintro e w' ⟨rfl, nd0, rfl⟩
  have hn0 : ((xs.length : Int) == 0) = false := by rw [beq_eq_false_iff_ne]; omega
  go_wp2_with fail
  go_loopw [5, 6] (fun rv fr wr => ∃ (j : Nat) (ys : List (List UInt8)), j ≤ xs.length ∧ ys.length ≤ j ∧ fr = .int .i64 j ∧ wr.ownsRow w.heap.size 9 1 rv ys.length (svs ys) ∧ Below w.heap.size w wr ∧ Hid (runs xs 0 = ys ++ runs xs j ∧ ∀ y ∈ ys, y.length ≤ 43))
    (fun _ fr _ => xs.length - (intOf fr).toNat)
  case atStart => exact ⟨0, [], Nat.zero_le _, by simp, rfl, World.ownsRow_nil _ _ _ _, below_drewN (Below.refl _ _) _, ⟨rfl, by simp⟩⟩
  case round =>
    obtain ⟨j, ys, hj, hys, rfl, hown, hB, HR⟩ := hrel
    by_cases hlt : j < xs.length
    · obtain ⟨wo, rfl⟩ : ∃ wo : World, wo = wr := ⟨_, rfl⟩
      go_wp2_with fail
      go_loopw [7] (fun t wi => ∃ m : Nat, j ≤ m ∧ m < xs.length ∧ t = .int .i64 m ∧ (∃ nd, wi = wo.drewN nd) ∧ Hid (runEnd xs j = runEnd xs m)) (fun t _ => xs.length - (intOf t).toNat)
      case atStart => exact ⟨j, Nat.le_refl _, hlt, rfl, ⟨0, rfl⟩, rfl⟩
      case round =>
        obtain ⟨m, hm1, hm2, rfl, ⟨nd, rfl⟩, HM⟩ := hrel
        obtain ⟨x, hx0⟩ : ∃ x, x = xs.getD m 0 := ⟨_, rfl⟩
        have bx : 0 ≤ x ∧ x ≤ 1000000000 := by rw [hx0]; exact HIN.out m hm2
        have pm : wo.cell? ⟨b, off + m, none⟩ = some (.int .i64 x) := by rw [hx0]; exact (hB.cell (p := ⟨b, off + m, none⟩) hb).trans (HC.out m hm2)
        have HX := Lib.hid hx0
        clear hx0
        by_cases hcont : m + 1 < xs.length ∧ xs.getD (m + 1) 0 = xs.getD m 0 + 1
        · obtain ⟨hg, hnext⟩ := hcont
          have hre : runEnd xs j = runEnd xs (m + 1) := by rw [HM.out, runEnd_next xs m hg hnext]
          have pn : wo.cell? ⟨b, off + (m + 1), none⟩ = some (.int .i64 (x + 1)) := by rw [HX.out, ← hnext]; exact (hB.cell (p := ⟨b, off + (m + 1), none⟩) hb).trans (HC.out (m + 1) hg)
          have HRE := Lib.hid hre
          clear hnext hre
          have bx1 := bx.1
          have bx2 := bx.2
          have i1 : (m : Int) + 1 < (xs.length : Int) := by omega
          have i2 : (m : Int) < (xs.length : Int) := by omega
          have i3 : (0 : Int) ≤ (m : Int) + 1 := by omega
          have i5 : IntKind.i64.wrap (x + 1) = x + 1 := IntWalk.i64_in _ (by omega)
          have i6 : IntKind.i64.wrap ((m : Int) + 1) = (m : Int) + 1 := IntWalk.i64_in _ (by omega)
          have i4 : ((m : Int) + 1).toNat = m + 1 := by omega
          go_wp2_with fail
          go_quiet (fail)
          clear i5 i6 i4
          go_wp2_with fail
          go_roundw
          case rel => exact ⟨m + 1, by omega, by omega, by go_num, ⟨nd + nq, rfl⟩, HRE.out⟩
          case measure => simp [intOf]; omega
        · have hre : runEnd xs j = m := by rw [HM.out, runEnd_stop xs m hcont]
          have hnew : runs xs 0 = (ys ++ [runText xs j m]) ++ runs xs (m + 1) := by rw [HR.out.1, runs_next xs j hlt, hre]; simp
          have hlen2 : ∀ y ∈ ys ++ [runText xs j m], y.length ≤ 43 := by
            intro y hy
            rcases List.mem_append.1 hy with h | h
            · exact HR.out.2 y h
            · rw [List.mem_singleton.1 h]; exact runText_len xs j m (HIN.out j hlt) (HIN.out m hm2)
          have HNEW := Lib.hid (And.intro hnew hlen2)
          obtain ⟨x0, hx00⟩ : ∃ x0, x0 = xs.getD j 0 := ⟨_, rfl⟩
          have bx0 : inR x0 := by rw [hx00]; exact HIN.out j hlt
          have pj : wo.cell? ⟨b, off + j, none⟩ = some (.int .i64 x0) := by rw [hx00]; exact (hB.cell (p := ⟨b, off + j, none⟩) hb).trans (HC.out j hlt)
          have HX0 := Lib.hid hx00
          have HBX := Lib.hid bx
          have HBX0 := Lib.hid bx0
          have hDG : ∀ (z : Int) (W : World), inR z → Below w.heap.size w W → Calls Tryd.prog 16 #[.int .i64 z] W fun e w' => e = .returned (.string (dg z)) ∧ Below W.heap.size W w' :=
            fun z W hz hbw => digits_any z W (by have := hz.1; omega) (by have := hz.2; omega) (HE.out.below hbw hEs)
          have HDG := Lib.hid hDG
          clear hre hnew hlen2 hx00 hDG bx0
          by_cases hg : m + 1 < xs.length
          · obtain ⟨z, hz0⟩ : ∃ z, z = xs.getD (m + 1) 0 := ⟨_, rfl⟩
            have pn : wo.cell? ⟨b, off + (m + 1), none⟩ = some (.int .i64 z) := by rw [hz0]; exact (hB.cell (p := ⟨b, off + (m + 1), none⟩) hb).trans (HC.out (m + 1) hg)
            have hzx : (z == x + 1) = false := by
              rw [beq_eq_false_iff_ne, hz0, HX.out]; intro e; exact hcont ⟨hg, e⟩
            clear hz0 hcont
            have bx1 := bx.1
            have bx2 := bx.2
            have i1 : (m : Int) + 1 < (xs.length : Int) := by omega
            have i2 : (m : Int) < (xs.length : Int) := by omega
            have i3 : (0 : Int) ≤ (m : Int) + 1 := by omega
            have i5 : IntKind.i64.wrap (x + 1) = x + 1 := IntWalk.i64_in _ (by omega)
            have i6 : IntKind.i64.wrap ((m : Int) + 1) = (m : Int) + 1 := IntWalk.i64_in _ (by omega)
            have i4 : ((m : Int) + 1).toNat = m + 1 := by omega
            go_wp2_with fail
            go_quiet (fail)
            clear i5 i6 i4 hzx pn bx1 bx2
            go_wp2_with fail
            have hW : Below w.heap.size w (wo.drewN (nd + nq)) := below_drewN hB _
            have hBs := hB.size
            have hc3 : ys.length + 1 ≤ maxLen := by unfold maxLen; omega
            have hc4 : (ys.length + 1) * 16 ≤ 140737488355328 := by omega
            refine (HDG.out x0 _ HBX0.out hW).mono ?_
            rintro e w2 ⟨rfl, hb2⟩
            have hW_ : Below w.heap.size w w2 := hW.trans (hb2.mono (by simp; omega))
            have hown2 : w2.ownsRow w.heap.size 9 1 u5 ys.length (svs ys) := own_below (W := wo.drewN (nd + nq)) hown hb2
            have s0 := dg_size x0 HBX0.out
            by_cases hjm : j < m
            · have pm2 : w2.cell? ⟨b, off + m, none⟩ = some (.int .i64 x) := by rw [HX.out]; exact (hW_.cell (p := ⟨b, off + m, none⟩) hb).trans (HC.out m hm2)
              have s1 := dg_size x HBX.out
              have hS : (dg x0 ++ (⟨#[45]⟩ ++ dg x) : ByteArray) = ⟨(runText xs j m).toArray⟩ := by
                apply bs_inj
                rw [bs_app, bs_app, dg_bs, dg_bs, bs_mk, runText, if_pos hjm, HX0.out, HX.out]; rfl
              have HS := Lib.hid hS
              clear hS
              go_wp2_with fail
              refine (HDG.out x _ HBX.out hW_).mono ?_
              rintro e w3 ⟨rfl, hb3⟩
              have hown3 : w3.ownsRow w.heap.size 9 1 u5 ys.length (svs ys) := own_below hown2 hb3
              have hW3 : Below w.heap.size w w3 := hW_.trans (hb3.mono hW_.size)
              clear hown2 hb2 hb3 hW_ pm2
              have hW_ := hW3
              have hc5 : ∀ o, w.heap.size ≤ (w3.alloc o).heap.size := fun o => by have := hW_.size; simp; omega
              go_wp2_with (at_builtin; refine wpList_append_own _ rfl _ _ 66 rfl w.heap.size 9 i0 (.string ⟨#[]⟩) 1 16 Tryd.underlying66 hi hz0 hz1 hz2 rfl (by decide) _ _ _ rfl (hown3.alloc _) ⟨w3.heap.size, 0, none⟩ 1 1 [.string (dg x0 ++ (⟨#[45]⟩ ++ dg x))] rfl rfl (cell_one_new _ _ _) one_str hc3 hc4 (hc5 _) ?_)
              intro v' w4 hown4 hgrow _
              have hB4 : Below w.heap.size w w4 := (hW_.alloc hW_.size _).grown hgrow (by have := hW_.size; simp; omega) (fun g hg => (hown3.lt g hg).1)
              rw [HS.out, ← svs_snoc] at hown4
              have HO4 := Lib.hid hown4
              clear hgrow hown4 hc5
              go_wp2_with fail
              go_roundw
              case rel => exact ⟨m + 1, ys ++ [runText xs j m], by omega, by simp; omega, by go_num, by rw [List.length_append]; exact HO4.out, hB4, HNEW.out⟩
              case measure => simp [intOf]; omega
            · obtain rfl : m = j := by omega
              have hS : dg x0 = ⟨(runText xs m m).toArray⟩ := by
                apply bs_inj
                rw [dg_bs, bs_mk, runText, if_neg hjm, HX0.out]
              have HS := Lib.hid hS
              clear hS
              have hc5 : ∀ o, w.heap.size ≤ (w2.alloc o).heap.size := fun o => by have := hW_.size; simp; omega
              go_wp2_with (at_builtin; refine wpList_append_own _ rfl _ _ 66 rfl w.heap.size 9 i0 (.string ⟨#[]⟩) 1 16 Tryd.underlying66 hi hz0 hz1 hz2 rfl (by decide) _ _ _ rfl (hown2.alloc _) ⟨w2.heap.size, 0, none⟩ 1 1 [.string (dg x0)] rfl rfl (cell_one_new _ _ _) one_str hc3 hc4 (hc5 _) ?_)
              intro v' w4 hown4 hgrow _
              have hB4 : Below w.heap.size w w4 := (hW_.alloc hW_.size _).grown hgrow (by have := hW_.size; simp; omega) (fun g hg => (hown2.lt g hg).1)
              rw [HS.out, ← svs_snoc] at hown4
              have HO4 := Lib.hid hown4
              clear hgrow hown4 hc5
              go_wp2_with fail
              go_roundw
              case rel => exact ⟨m + 1, ys ++ [runText xs m m], by omega, by simp; omega, by go_num, by rw [List.length_append]; exact HO4.out, hB4, HNEW.out⟩
              case measure => simp [intOf]; omega
          · have i1 : decide ((m : Int) + 1 < (xs.length : Int)) = false := by simp; omega
            have i6 : IntKind.i64.wrap ((m : Int) + 1) = (m : Int) + 1 := IntWalk.i64_in _ (by omega)
            clear hcont
            go_wp2_with fail
            go_quiet (fail)
            clear i1 i6
            go_wp2_with fail
            have hW : Below w.heap.size w (wo.drewN (nd + nq)) := below_drewN hB _
            have hBs := hB.size
            have hc3 : ys.length + 1 ≤ maxLen := by unfold maxLen; omega
            have hc4 : (ys.length + 1) * 16 ≤ 140737488355328 := by omega
            refine (HDG.out x0 _ HBX0.out hW).mono ?_
            rintro e w2 ⟨rfl, hb2⟩
            have hW_ : Below w.heap.size w w2 := hW.trans (hb2.mono (by simp; omega))
            have hown2 : w2.ownsRow w.heap.size 9 1 u5 ys.length (svs ys) := own_below (W := wo.drewN (nd + nq)) hown hb2
            have s0 := dg_size x0 HBX0.out
            by_cases hjm : j < m
            · have pm2 : w2.cell? ⟨b, off + m, none⟩ = some (.int .i64 x) := by rw [HX.out]; exact (hW_.cell (p := ⟨b, off + m, none⟩) hb).trans (HC.out m hm2)
              have s1 := dg_size x HBX.out
              have hS : (dg x0 ++ (⟨#[45]⟩ ++ dg x) : ByteArray) = ⟨(runText xs j m).toArray⟩ := by
                apply bs_inj
                rw [bs_app, bs_app, dg_bs, dg_bs, bs_mk, runText, if_pos hjm, HX0.out, HX.out]; rfl
              have HS := Lib.hid hS
              clear hS
              go_wp2_with fail
              refine (HDG.out x _ HBX.out hW_).mono ?_
              rintro e w3 ⟨rfl, hb3⟩
              have hown3 : w3.ownsRow w.heap.size 9 1 u5 ys.length (svs ys) := own_below hown2 hb3
              have hW3 : Below w.heap.size w w3 := hW_.trans (hb3.mono hW_.size)
              clear hown2 hb2 hb3 hW_ pm2
              have hW_ := hW3
              have hc5 : ∀ o, w.heap.size ≤ (w3.alloc o).heap.size := fun o => by have := hW_.size; simp; omega
              go_wp2_with (at_builtin; refine wpList_append_own _ rfl _ _ 66 rfl w.heap.size 9 i0 (.string ⟨#[]⟩) 1 16 Tryd.underlying66 hi hz0 hz1 hz2 rfl (by decide) _ _ _ rfl (hown3.alloc _) ⟨w3.heap.size, 0, none⟩ 1 1 [.string (dg x0 ++ (⟨#[45]⟩ ++ dg x))] rfl rfl (cell_one_new _ _ _) one_str hc3 hc4 (hc5 _) ?_)
              intro v' w4 hown4 hgrow _
              have hB4 : Below w.heap.size w w4 := (hW_.alloc hW_.size _).grown hgrow (by have := hW_.size; simp; omega) (fun g hg => (hown3.lt g hg).1)
              rw [HS.out, ← svs_snoc] at hown4
              have HO4 := Lib.hid hown4
              clear hgrow hown4 hc5
              go_wp2_with fail
              go_roundw
              case rel => exact ⟨m + 1, ys ++ [runText xs j m], by omega, by simp; omega, by go_num, by rw [List.length_append]; exact HO4.out, hB4, HNEW.out⟩
              case measure => simp [intOf]; omega
            · obtain rfl : m = j := by omega
              have hS : dg x0 = ⟨(runText xs m m).toArray⟩ := by
                apply bs_inj
                rw [dg_bs, bs_mk, runText, if_neg hjm, HX0.out]
              have HS := Lib.hid hS
              clear hS
              have hc5 : ∀ o, w.heap.size ≤ (w2.alloc o).heap.size := fun o => by have := hW_.size; simp; omega
              go_wp2_with (at_builtin; refine wpList_append_own _ rfl _ _ 66 rfl w.heap.size 9 i0 (.string ⟨#[]⟩) 1 16 Tryd.underlying66 hi hz0 hz1 hz2 rfl (by decide) _ _ _ rfl (hown2.alloc _) ⟨w2.heap.size, 0, none⟩ 1 1 [.string (dg x0)] rfl rfl (cell_one_new _ _ _) one_str hc3 hc4 (hc5 _) ?_)
              intro v' w4 hown4 hgrow _
              have hB4 : Below w.heap.size w w4 := (hW_.alloc hW_.size _).grown hgrow (by have := hW_.size; simp; omega) (fun g hg => (hown2.lt g hg).1)
              rw [HS.out, ← svs_snoc] at hown4
              have HO4 := Lib.hid hown4
              clear hgrow hown4 hc5
              go_wp2_with fail
              go_roundw
              case rel => exact ⟨m + 1, ys ++ [runText xs m m], by omega, by simp; omega, by go_num, by rw [List.length_append]; exact HO4.out, hB4, HNEW.out⟩
              case measure => simp [intOf]; omega
    · have hall : runs xs 0 = ys := by rw [HR.out.1, runs_end xs j (by omega), List.append_nil]
      have hpos : 0 < ys.length := by rw [← hall, runs_next xs 0 (by omega)]; simp
      obtain ⟨g, cap, rfl, hg, hcap⟩ : ∃ g cap, u5 = .slice (some ⟨g, 0, none⟩) ys.length cap ∧ g < wr.heap.size ∧ ys.length ≤ cap := by
        have hl := hown.lt
        rcases hown.2 with ⟨_, h⟩ | ⟨g, cap, cur, rfl, _, hh, hc, _⟩
        · omega
        · exact ⟨g, cap, rfl, (hl g rfl).2, hc⟩
      have hj : (ys.map fun y => (⟨y.toArray⟩ : ByteArray)).map (fun s => s.data.toList) = ys := by rw [List.map_map]; exact List.map_id ys
      have hl5 : ys.length ≤ 500 := by omega
      have hJ := Tryd.strings_Join g 0 cap (ys.map fun y => (⟨y.toArray⟩ : ByteArray)) ⟨#[44]⟩ wr (fun i x hx => by
          rw [List.getElem?_map] at hx
          cases hy : ys[i]? with
          | none => rw [hy] at hx; simp at hx
          | some y =>
            rw [hy] at hx
            simp only [Option.map_some, Option.some.injEq] at hx
            have hi : i < ys.length := (List.getElem?_eq_some_iff.1 hy).1
            rw [Nat.zero_add, hown.cellAt i (by omega), svs_get ys i hi, ← hx]
            have := (List.getElem?_eq_some_iff.1 hy).2
            rw [this]) hg (by rw [List.length_map]; omega) (by rw [List.length_map]; exact hcap) (by
          rw [show (ys.map (fun y => (⟨y.toArray⟩ : ByteArray))).map (·.data.toList) = ys from hj]
          have := join_len ys HR.out.2 (by omega)
          show (Lib.join ys [44]).length ≤ _
          omega)
      rw [show (ys.map (fun y => (⟨y.toArray⟩ : ByteArray))).map (·.data.toList) = ys from hj, List.length_map] at hJ
      have HJ := Lib.hid hJ
      have HALL := Lib.hid hall
      clear hJ hj hall
      go_wp2_with fail
      refine (HJ.out).mono ?_
      rintro e w2 ⟨rfl, hb2⟩
      go_wp2_with fail
      go_ret2
      exact ⟨by rw [H.out, HALL.out]; rfl, hB.trans (hb2.mono hB.size)⟩
end Go.Proofs.YtdkaogcimecfiaaDoor

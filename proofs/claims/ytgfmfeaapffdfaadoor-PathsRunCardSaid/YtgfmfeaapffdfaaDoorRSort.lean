/- The contract of the reference's Sort. Conditions: the slice holds what is said of it; paths of at most 10^6 strings of at most 10^9 bytes. -/
import Derived.Test.YtgfmfeaapffdfaaDoorApps
import Derived.Deep.DeepCutAuto
import Derived.Deep.RegionHeldLaw
namespace Go.Proofs.YtgfmfeaapffdfaaDoor
open Go.RowKit

theorem all_dec {p : Path} {c : Nat} (out : List Path) (h : c < out.length) (h1 : ∀ y ∈ out.drop (c + 1), pl p y = true) (h2 : pl p out[c] = true) : ∀ y ∈ out.drop c, pl p y = true := by
  rw [List.drop_eq_getElem_cons h]
  intro y hy
  rcases List.mem_cons.1 hy with rfl | hy
  · exact h2
  · exact h1 y hy
def idV (x : Value) : Value := x
theorem RV.of_sl {w : World} {lim : Nat} {u : Value} {us : List Value} (h : SL idV w lim u us) : RV w lim u us := by
  rcases h with ⟨rfl, h⟩ | ⟨b, off, c, rfl, hl, hcap, hc⟩
  · exact .inl ⟨rfl, h⟩
  · exact .inr ⟨b, off, c, rfl, hl, hc⟩
theorem RV.below {w w' : World} {lim B : Nat} {u : Value} {us : List Value} (h : RV w lim u us) (hb : Below B w w') (hB : lim ≤ B) : RV w' lim u us := by
  rcases h with h | ⟨b, off, c, rfl, hl, hc⟩
  · exact .inl h
  · exact .inr ⟨b, off, c, rfl, hl, fun i hi => (hb.cell (p := ⟨b, _, none⟩) (show b < B by omega)).trans (hc i hi)⟩
theorem RV.next {w w' : World} {u : Value} {us : List Value} (h : RV w w.heap.size u us) (hb : Below w.heap.size w w') : RV w' w.heap.size u us := h.below hb (Nat.le_refl _)
theorem SL.own_id {w : World} {base n : Nat} {v : Value} {xs : List Value} (h : w.ownsRow base 22 1 v n xs) (hn : n = xs.length) : SL idV w w.heap.size v xs :=
  SL.of_own hn (by rw [show xs.map idV = xs from List.map_id xs]; exact h)
/-- A row of slices that hold the paths of a list. -/
def RL (w : World) (u : Value) (us : List Value) (l : List Path) : Prop :=
  SL idV w w.heap.size u us ∧ us.length = l.length ∧ ∀ i (h1 : i < us.length) (h2 : i < l.length), SL encS w w.heap.size us[i] l[i]
theorem RL.form {w : World} {u : Value} {us : List Value} {l : List Path} (h : RL w u us l) : ∃ A c, u = .slice A l.length c := by
  obtain ⟨A, c, e⟩ := h.1.form
  exact ⟨A, c, by rw [e, h.2.1]⟩
theorem RL.at {w : World} {A : Option Addr} {n c : Nat} {us : List Value} {l : List Path} (h : RL w (.slice A n c) us l) (hne : 0 < l.length) :
    ∃ b off, A = some ⟨b, off, none⟩ ∧ ∀ i (hi : i < l.length), ∃ u, w.cell? ⟨b, off + i, none⟩ = some u ∧ SL encS w w.heap.size u l[i] := by
  obtain ⟨h1, h2, h3⟩ := h
  obtain ⟨b, off, e1, _, hc⟩ := h1.at (by omega)
  exact ⟨b, off, e1, fun i hi => ⟨_, hc i (by omega), h3 i (by omega) hi⟩⟩
theorem at_drew {P : Program} {c : Code} {Q : Exit → Act → World → Prop} {a : Act} {W : World} (wr : World) (hW : ∃ i, W = wr.drewN i) (h : ∀ V, (∃ i, V = wr.drewN i) → c.wp P Q a V) : c.wp P Q a W := h W hW
theorem own_one (w : World) (t : TypeId) (v : Value) : (w.alloc (.cells #[v] t)).ownsRow w.heap.size t 1 (.slice (some ⟨w.heap.size, 0, none⟩) 1 1) 1 [v] :=
  ⟨rfl, .inr ⟨w.heap.size, 0 + 1, #[v], rfl, Nat.le_refl _, heap_alloc_last w _, Nat.le_refl _, by simp [maxLen], rfl, rfl⟩⟩
theorem dup_of {l out : List Path} {j : Nat} (h : j < l.length) (hp : out.Perm (l.take j)) (hm : l[j] ∈ out) : ¬ l.Nodup := by
  intro hn
  have h1 := hp.mem_iff.1 hm
  have h2 : l = l.take j ++ l.drop j := (List.take_append_drop j l).symm
  rw [h2, List.nodup_append] at hn
  rw [List.drop_eq_getElem_cons h] at hn
  exact hn.2.2 _ h1 _ (List.mem_cons_self) rfl

theorem pairs_insert {P : Value → Path → Prop} : ∀ (k : Nat) (us : List Value) (out : List Path), us.length = out.length → k ≤ out.length → (∀ i (h1 : i < us.length) (h2 : i < out.length), P us[i] out[i]) → ∀ (v : Value) (p : Path), P v p →
    ∀ i (h1 : i < (us.take k ++ v :: us.drop k).length) (h2 : i < (out.take k ++ p :: out.drop k).length), P (us.take k ++ v :: us.drop k)[i] (out.take k ++ p :: out.drop k)[i]
  | 0, us, out, _, _, h, v, p, hv, i, h1, h2 => by
    cases i with
    | zero => exact hv
    | succ i => exact h i (by simpa using h1) (by simpa using h2)
  | k + 1, [], out, hl, hk, _, _, _, _, _, _, _ => by simp at hl; omega
  | k + 1, u :: us, [], hl, _, _, _, _, _, _, _, _ => by simp at hl
  | k + 1, u :: us, o :: out, hl, hk, h, v, p, hv, i, h1, h2 => by
    cases i with
    | zero => exact h 0 (by simp) (by simp)
    | succ i => exact pairs_insert k us out (by simpa using hl) (by simpa using hk) (fun i a b => h (i + 1) (by simpa using a) (by simpa using b)) v p hv i (by simpa using h1) (by simpa using h2)
theorem perm_next {l out : List Path} {j k : Nat} (h : j < l.length) (hp : out.Perm (l.take j)) : (out.take k ++ l[j] :: out.drop k).Perm (l.take (j + 1)) := by
  refine (perm_insert l[j] out k).trans ?_
  rw [← List.take_append_getElem h]
  exact (hp.cons _).trans (List.perm_append_singleton _ _).symm
theorem keep_alloc {V W : World} {r o : Nat} {x : Value} (hr : r < V.heap.size) (hc : V.cell? ⟨r, o, none⟩ = some x) (h : W.cell? ⟨r, o, none⟩ = some x ∧ Below V.heap.size V W) (ob : Obj) :
    (W.alloc ob).cell? ⟨r, o, none⟩ = some x ∧ Below V.heap.size V (W.alloc ob) :=
  have b := h.2.alloc h.2.size ob
  ⟨(b.cell (p := ⟨r, o, none⟩) hr).trans hc, b⟩
theorem at_world {P : Program} {o : Oper} {a : Act} {w : World} {K : Act → World → Prop} {Q : Exit → Act → World → Prop} (w0 : World) (_ : w0 = w) (h : o.wp P a w K Q) : o.wp P a w K Q := h
set_option maxRecDepth 100000 in
set_option maxHeartbeats 16000000 in
theorem rsort_any : SortC 36 := by
  intro w v l hv hl hs
  obtain ⟨A, c, rfl⟩ := hv.form
  have HV := Lib.hid hv
  have HS := Lib.hid hs
  by_cases h5 : 500 < l.length
  · have i1 : (500 : Int) < (l.length : Int) := by omega
    have H : Hid (SortIs l [] 3) := .inl ⟨h5, rfl, rfl⟩
    clear hv hs h5
    go_enter Tryd.func36, Tryd.ntmps36
    go_wp2_with fail
    go_ret2
    exact ⟨_, [], 3, rfl, .inl ⟨rfl, _, _, rfl⟩, H.out, Below.refl _ _⟩
  have i1 : ¬ (500 : Int) < (l.length : Int) := by omega
  have h5' : l.length ≤ 500 := by omega
  clear hv hs h5
  go_enter Tryd.func36, Tryd.ntmps36
  go_wp2_with fail
  go_loop [4] (fun i => ∃ k : Nat, k ≤ l.length ∧ i = .int .i64 k ∧ Hid (allE (l.drop k) = allE l)) (fun i => l.length - (intOf i).toNat)
  case atStart => exact ⟨0, Nat.zero_le _, rfl, by simp [Hid]⟩
  case round =>
    obtain ⟨k, hk, rfl, HR⟩ := hrel
    by_cases hlt : k < l.length
    · obtain ⟨b, off, rfl, hb, hc⟩ := HV.out.at (by omega)
      obtain ⟨u, h0, hu⟩ := hc k hlt
      have HC := Lib.hid (rcheck_any w u l[k] hu (HS.out _ (List.getElem_mem _)).2)
      obtain ⟨A1, c1, rfl⟩ := hu.form
      have i4 : (k : Int) < (l.length : Int) := by omega
      clear hc hu
      by_cases hz : checkE l[k] = 0
      · have hb2 : (((checkE l[k] : Nat) : Int) != 0) = false := by rw [hz]; rfl
        have H2 := Lib.hid (allE_step l k hlt hz)
        clear hz
        go_wp2_with (go_at_call 20; refine HC.out.mono ?_; rintro e w' ⟨rfl, rfl⟩)
        go_round
        case rel => exact ⟨k + 1, by omega, by go_num, by show allE (l.drop (k + 1)) = allE l; rw [← H2.out, HR.out]⟩
        case measure => simp [intOf]; omega
      · have hb2 : (((checkE l[k] : Nat) : Int) != 0) = true := by rw [bne_iff_ne]; omega
        have H2 := Lib.hid (allE_stop l k hlt hz)
        have H3 : Hid (SortIs l [] (checkE l[k])) := .inr (.inl ⟨h5', by rw [← HR.out, H2.out]; exact hz, rfl, by rw [← HR.out, H2.out]⟩)
        clear hz
        go_wp2_with (go_at_call 20; refine HC.out.mono ?_; rintro e w' ⟨rfl, rfl⟩)
        go_ret2
        exact ⟨_, [], checkE l[k], rfl, .inl ⟨rfl, _, _, rfl⟩, H3.out, Below.refl _ _⟩
    · have HE : Hid (allE l = 0) := by show allE l = 0; rw [← HR.out, List.drop_of_length_le (by omega)]; rfl
      have i4 : ¬ (k : Int) < (l.length : Int) := by omega
      clear HR hlt
      go_wp2_with fail
      go_loopw [6, 7] (fun o i wr => ∃ (j : Nat) (out : List Path) (us : List Value), j ≤ l.length ∧ i = .int .i64 j ∧ Hid (RL wr o us out) ∧ Hid (Asc out) ∧ Hid (out.Perm (l.take j)) ∧ Hid (Below w.heap.size w wr)) (fun _ i _ => l.length - (intOf i).toNat)
      case atStart => exact ⟨0, [], [], Nat.zero_le _, rfl, ⟨SL.nil _ _, rfl, fun i h => by simp at h⟩, List.Pairwise.nil, by simp [Hid], Below.refl _ _⟩
      case round =>
        obtain ⟨j, out, us, hj, rfl, HRL, HAS, HPE, HBE⟩ := hrel
        obtain ⟨A2, c2, rfl⟩ := HRL.out.form
        have HOL : Hid (out.length = j) := by show out.length = j; rw [HPE.out.length_eq, List.length_take]; omega
        have hol : out.length ≤ 500 := by have := HOL.out; omega
        by_cases hlt : j < l.length
        · obtain ⟨b, off, rfl, hb, hc⟩ := (HV.out.next HBE.out).at (by omega)
          obtain ⟨u, h0, hu⟩ := hc j hlt
          have HU := Lib.hid hu
          obtain ⟨A1, c1, rfl⟩ := hu.form
          have i4 : (j : Int) < (l.length : Int) := by omega
          have HBL := Lib.hid hb
          clear hc hu hb
          go_upto_region 13 with fail
          go_cut [8] (fun s8 wx => s8 = .int .i64 (out.length : Int) ∧ wr = wx)
          case first =>
            go_wp2_with fail
            go_meet
            case rel => exact ⟨rfl, rfl⟩
          obtain ⟨rfl, rfl⟩ := hcut
          go_step
          go_step
          go_cut [8] (fun s8 wx => ∃ AT, AT ≤ out.length ∧ s8 = .int .i64 (AT : Int) ∧ (∃ m, wx = wr.drewN m) ∧ Hid (∀ y ∈ out.drop AT, pl l[j] y = true) ∧ Hid (∀ (h0 : 0 < AT) (h1 : AT - 1 < out.length), pl l[j] out[AT - 1] = false))
          case first =>
            go_step
            go_loopw [8] (fun a wr2 => ∃ c m : Nat, c ≤ out.length ∧ a = .int .i64 c ∧ wr2 = wr.drewN m ∧ Hid (∀ y ∈ out.drop c, pl l[j] y = true)) (fun a _ => (intOf a).toNat)
            case atStart => exact ⟨out.length, 0, Nat.le_refl _, rfl, rfl, by simp [Hid]⟩
            case round =>
              obtain ⟨c, m, hcl, rfl, rfl, HD⟩ := hrel
              rcases c with _ | c
              · go_wp2_with fail
                go_quiet (fail)
                go_wp2_with fail
                go_meet
                case rel => exact ⟨0, Nat.zero_le _, rfl, (by first | exact drew3 _ _ _ _ | exact drew2 _ _ _ | exact ⟨_, rfl⟩), HD.out, fun h0 => absurd h0 (by omega)⟩
              · obtain ⟨b2, off2, rfl, hc2⟩ := HRL.out.at (by omega)
                obtain ⟨u2, p0, hu2⟩ := hc2 c (by omega)
                have HU2 := Lib.hid hu2
                have HL : Hid (∀ n, Calls Tryd.prog 47 #[.slice A1 l[j].length c1, u2] (wr.drewN n) fun e w' => e = .returned (.bool (pl l[j] out[c])) ∧ ∃ i, w' = (wr.drewN n).drewN i) := fun n => less_any (wr.drewN n) _ _ _ _ (HU.out.drewN n) (hu2.drewN n) (HS.out _ (List.getElem_mem _)).1 (HS.out _ (HPE.out.mem_iff.1 (List.getElem_mem _) |> List.mem_of_mem_take)).1
                obtain ⟨A3, c3, rfl⟩ := hu2.form
                have i5 : (0 : Int) < (c : Int) + 1 := by omega
                have i6 : (c : Int) + 1 - 1 = (c : Int) := by omega
                have i7 : (c : Int) < (out.length : Int) := by omega
                have i8 : c < out.length := by omega
                clear hc2 hu2
                cases hle : pl l[j] out[c] with
                | true =>
                  rw [hle] at HL
                  have HN := Lib.hid (all_dec (p := l[j]) out i8 HD.out hle)
                  clear hle
                  go_wp2_with fail
                  go_quiet (first | (refine (HL.out _).mono ?_; rintro e w' ⟨rfl, m2, rfl⟩; exact ⟨rfl, drewm _ _ _ _⟩))
                  go_wp2_with fail
                  go_roundw
                  case rel => exact ⟨c, _, by omega, by go_num, rfl, HN⟩
                  case measure => simp [intOf]
                | false =>
                  rw [hle] at HL
                  have HLE := Lib.hid hle
                  clear hle
                  go_wp2_with fail
                  go_quiet (first | (refine (HL.out _).mono ?_; rintro e w' ⟨rfl, m2, rfl⟩; exact ⟨rfl, drewm _ _ _ _⟩))
                  go_wp2_with fail
                  go_meet
                  case rel => exact ⟨c + 1, hcl, by go_num, (by first | exact drew3 _ _ _ _ | exact drew2 _ _ _ | exact ⟨_, rfl⟩), HD.out, fun _ _ => HLE.out⟩
          case rest =>
            obtain ⟨AT, hAT, rfl, ⟨m, rfl⟩, HD, HNL⟩ := hcut
            go_upto_region 16 with fail
            go_cut [65] (fun t wx => ∃ tb, t = .bool tb ∧ (∃ m2, wx = wr.drewN m2) ∧ Hid (tb = true → l[j] ∈ out) ∧ Hid (tb = false → ∀ (h0 : 0 < AT) (h1 : AT - 1 < out.length), pl out[AT - 1] l[j] = true))
            case first =>
              rcases AT with _ | c
              · go_quiet (fail)
                go_wp2_with fail
                go_meet
                case rel => exact ⟨false, rfl, (by first | exact drew3 _ _ _ _ | exact drew2 _ _ _ | exact ⟨_, rfl⟩), (fun h => by cases h), fun _ h0 => absurd h0 (by omega)⟩
              · obtain ⟨b2, off2, rfl, hc2⟩ := HRL.out.at (by omega)
                obtain ⟨u2, p0, hu2⟩ := hc2 c (by omega)
                have HU2 := Lib.hid hu2
                have HLE : Hid (pl l[j] (out[c]'(by omega)) = false) := HNL.out (by omega) (by omega)
                have HG : Hid (∀ n, Calls Tryd.prog 47 #[u2, .slice A1 l[j].length c1] (wr.drewN n) fun e w' => e = .returned (.bool (pl (out[c]'(by omega)) l[j])) ∧ ∃ i, w' = (wr.drewN n).drewN i) := fun n => less_any (wr.drewN n) _ _ _ _ (HU2.out.drewN n) (HU.out.drewN n) (HS.out _ (HPE.out.mem_iff.1 (List.getElem_mem _) |> List.mem_of_mem_take)).1 (HS.out _ (List.getElem_mem _)).1
                obtain ⟨A3, c3, rfl⟩ := hu2.form
                have i5 : (0 : Int) < (c : Int) + 1 := by omega
                have i6 : (c : Int) + 1 - 1 = (c : Int) := by omega
                have i7 : (c : Int) < (out.length : Int) := by omega
                have i8 : c < out.length := by omega
                clear hc2 hu2
                cases hge : pl out[c] l[j] with
                | true =>
                  rw [hge] at HG
                  have HGE := Lib.hid hge
                  clear hge
                  go_quiet (first | (refine (HG.out _).mono ?_; rintro e w' ⟨rfl, m2, rfl⟩; exact ⟨rfl, drewm _ _ _ _⟩))
                  go_wp2_with fail
                  go_meet
                  case rel => exact ⟨false, rfl, (by first | exact drew3 _ _ _ _ | exact drew2 _ _ _ | exact ⟨_, rfl⟩), (fun h => by cases h), fun _ _ _ => HGE.out⟩
                | false =>
                  rw [hge] at HG
                  have HGE := Lib.hid hge
                  clear hge
                  go_quiet (first | (refine (HG.out _).mono ?_; rintro e w' ⟨rfl, m2, rfl⟩; exact ⟨rfl, drewm _ _ _ _⟩))
                  go_wp2_with fail
                  go_meet
                  case rel => exact ⟨true, rfl, (by first | exact drew3 _ _ _ _ | exact drew2 _ _ _ | exact ⟨_, rfl⟩), (fun _ => by rw [pl_total _ _ HLE.out HGE.out]; exact List.getElem_mem _), (fun h => by cases h)⟩
            case rest =>
              obtain ⟨tb, rfl, hVE, HTB, HFB⟩ := hcut
              obtain ⟨m3, hwc⟩ := hVE
              subst hwc
              cases tb with
              | true =>
                have H8 : Hid (SortIs l [] 8) := .inr (.inr (.inl ⟨h5', HE.out, dup_of hlt HPE.out (HTB.out rfl), rfl, rfl⟩))
                go_wp2_with fail
                go_ret2
                exact ⟨_, [], 8, rfl, .inl ⟨rfl, _, _, rfl⟩, H8.out, below_drewN HBE.out _⟩
              | false =>
                go_upto_region 18 with fail
                refine at_drew wr ⟨m3, rfl⟩ (fun V hVE => ?_)
                have HBV : Hid (Below w.heap.size w V) := by obtain ⟨i, rfl⟩ := hVE; exact below_drewN HBE.out _
                have HUV : Hid (SL encS V V.heap.size (.slice A1 l[j].length c1) l[j]) := by obtain ⟨i, rfl⟩ := hVE; exact HU.out.drewN _
                have HRV : Hid (SL idV V V.heap.size (.slice A2 out.length c2) us) := by obtain ⟨i, rfl⟩ := hVE; exact HRL.out.1.drewN _
                have HSV : Hid (∀ i (h1 : i < us.length) (h2 : i < out.length), SL encS V V.heap.size us[i] out[i]) := by obtain ⟨i, rfl⟩ := hVE; exact HRL.out.2.2
                have h0V : V.cell? ⟨b, off + j, none⟩ = some (.slice A1 l[j].length c1) := by obtain ⟨i, rfl⟩ := hVE; exact h0
                have hbV : b < V.heap.size := by obtain ⟨i, rfl⟩ := hVE; exact HBL.out
                have HUL : Hid (us.length = out.length) := HRL.out.2.1
                have HONE : Hid (∀ y ∈ us, y.oneCell' = true) := by
                  intro y hy
                  obtain ⟨i, hi, rfl⟩ := List.getElem_of_mem hy
                  obtain ⟨_, _, e⟩ := (HSV.out i hi (by rw [← HUL.out]; exact hi)).form
                  rw [e]; rfl
                clear hVE h0
                have hcap := HRV.out.cap
                rw [HUL.out] at hcap
                have hac : AT ≤ c2 := by omega
                have HFI := HRV.out.first (k := AT) (by rw [HUL.out]; omega)
                have HFI2 := Lib.hid HFI
                have HPL : Hid (l[j].length ≤ 1000000) := (HS.out _ (List.getElem_mem _)).1
                have HNV : Hid ((V.alloc (.cells #[] 9)).drew.ownsRow V.heap.size 9 1 (.slice (some ⟨V.heap.size, 0, none⟩) 0 0) 0 []) := own_new V 9
                have HB1 : Hid (Below V.heap.size V (V.alloc (.cells #[] 9)).drew) := ((Below.refl V.heap.size V).alloc (Nat.le_refl _) _).drew
                have HT1 := Lib.hid (HUV.out.below HB1.out (Nat.le_refl _))
                have hSV : V.drew.cell? ⟨b, off + j, none⟩ = some (.slice A1 l[j].length c1) ∧ Below V.heap.size V V.drew := ⟨h0V, (Below.refl _ _).drew⟩
                have hATI : (AT : Int) ≤ (out.length : Int) := by omega
                have hacI : (AT : Int) ≤ (c2 : Int) := by omega
                clear HFI
                go_cut [9] (fun v wx => ∃ rv vn, rv = v ∧ RV wx wx.heap.size rv (vn :: us.drop AT) ∧ SL encS wx wx.heap.size vn l[j] ∧ Below V.heap.size V wx)
                case first =>
                  rcases AT with _ | c
                  · have HRT : Hid (SL idV V V.heap.size (.slice A2 out.length c2) (us.drop 0)) := HRV.out
                    go_region_held_law (fun W => W.cell? ⟨b, off + j, none⟩ = some (.slice A1 l[j].length c1) ∧ Below V.heap.size V W) (first | assumption | exact keep_alloc hbV hSV.1 (by assumption) _)
                      ((rw [if_pos (by simp [Region.wanted])]; first
                      | (refine at_world ((V.alloc (.cells #[] 9)).drew) (by with_reducible rfl) ?_
                         refine wp_append_sl _ _ rfl V.heap.size V.heap.size _ 0 [] rfl HNV.out _ l[j] rfl HT1.out (by have := HPL.out; omega) (by simp) ?_
                         intro v4 w4 hown4 hgrow4
                         rw [List.nil_append, Nat.zero_add] at hown4
                         have hb4 : Below V.heap.size V w4 := HB1.out.grown hgrow4 (by simp) (fun r e => (HNV.out.lt r e).1)
                         have hs4 : w4.cell? ⟨b, off + j, none⟩ = some (.slice A1 l[j].length c1) ∧ Below V.heap.size V w4 := ⟨(hb4.cell (p := ⟨b, off + j, none⟩) hbV).trans hSV.1, hb4⟩
                         have hO4 := OwnP.sl (p := l[j]) hown4
                         obtain ⟨A4, c4, rfl⟩ := hO4.form
                         have HO4 := Lib.hid hO4
                         have HB4 := Lib.hid hb4
                         have HN5 : Hid ((w4.alloc (.cells #[.slice A4 l[j].length c4] 22)).ownsRow w4.heap.size 22 1 (.slice (some ⟨w4.heap.size, 0, none⟩) 1 1) 1 [.slice A4 l[j].length c4]) := own_one w4 _ _
                         have HB5 : Hid (Below V.heap.size V (w4.alloc (.cells #[.slice A4 l[j].length c4] 22))) := HB4.out.alloc HB4.out.size _
                         have HR5 := Lib.hid (RV.of_sl (HRT.out.below HB5.out (Nat.le_refl _)))
                         clear hown4 hgrow4 hb4 hO4)
                      | (refine wp_append_rv _ _ rfl w4.heap.size V.heap.size _ 1 [.slice A4 l[j].length c4] rfl HN5.out _ (us.drop (0)) rfl HR5.out (fun y hy => HONE.out y (List.mem_of_mem_drop hy)) (by rw [List.length_drop, HUL.out]; omega) (by simp) ?_
                         intro v6 w6 hown6 hgrow6
                         have hb6 : Below V.heap.size V w6 := HB5.out.grown hgrow6 (by have := HB4.out.size; simp; omega) (fun r e => Nat.le_trans HB4.out.size (HN5.out.lt r e).1)
                         have hs6 : w6.cell? ⟨b, off + j, none⟩ = some (.slice A1 l[j].length c1) ∧ Below V.heap.size V w6 := ⟨(hb6.cell (p := ⟨b, off + j, none⟩) hbV).trans hSV.1, hb6⟩
                         have h46 : Below w4.heap.size w4 w6 := ((Below.refl w4.heap.size w4).alloc (Nat.le_refl _) _).grown hgrow6 (by simp) (fun r e => (HN5.out.lt r e).1)
                         have HNEW := Lib.hid (HO4.out.next h46)
                         have HRV6 := Lib.hid (RV.own hown6 (by simp; omega))
                         have HB6 := Lib.hid hb6
                         clear hown6 hgrow6 hb6 h46
                         simp only [List.getElem_toArray, List.getElem_cons_succ, List.getElem_cons_zero])))
                    all_goals
                      go_wp2
                      go_meet
                      case rel => exact ⟨_, _, rfl, HRV6.out, HNEW.out, HB6.out⟩
                  · obtain ⟨b2, off2, rfl, _⟩ := HRV.out.at (by rw [HUL.out]; omega)
                    have hR := HRV.out.rest (k := c + 1) (by rw [HUL.out]; omega)
                    rw [HUL.out] at hR
                    by_cases hcc : c2 = c + 1
                    · have hz : out.length - (c + 1) = 0 := by omega
                      rw [if_pos hcc, hz, hcc, Nat.sub_self] at hR
                      subst hcc
                      have HRT := Lib.hid hR
                      clear hR
                      go_region_held_law (fun W => W.cell? ⟨b, off + j, none⟩ = some (.slice A1 l[j].length c1) ∧ Below V.heap.size V W) (first | assumption | exact keep_alloc hbV hSV.1 (by assumption) _)
                        ((rw [if_pos (by simp [Region.wanted])]; first
                        | (refine at_world ((V.alloc (.cells #[] 9)).drew) (by with_reducible rfl) ?_
                           refine wp_append_sl _ _ rfl V.heap.size V.heap.size _ 0 [] rfl HNV.out _ l[j] rfl HT1.out (by have := HPL.out; omega) (by simp) ?_
                           intro v4 w4 hown4 hgrow4
                           rw [List.nil_append, Nat.zero_add] at hown4
                           have hb4 : Below V.heap.size V w4 := HB1.out.grown hgrow4 (by simp) (fun r e => (HNV.out.lt r e).1)
                           have hs4 : w4.cell? ⟨b, off + j, none⟩ = some (.slice A1 l[j].length c1) ∧ Below V.heap.size V w4 := ⟨(hb4.cell (p := ⟨b, off + j, none⟩) hbV).trans hSV.1, hb4⟩
                           have hO4 := OwnP.sl (p := l[j]) hown4
                           obtain ⟨A4, c4, rfl⟩ := hO4.form
                           have HO4 := Lib.hid hO4
                           have HB4 := Lib.hid hb4
                           have HN5 : Hid ((w4.alloc (.cells #[.slice A4 l[j].length c4] 22)).ownsRow w4.heap.size 22 1 (.slice (some ⟨w4.heap.size, 0, none⟩) 1 1) 1 [.slice A4 l[j].length c4]) := own_one w4 _ _
                           have HB5 : Hid (Below V.heap.size V (w4.alloc (.cells #[.slice A4 l[j].length c4] 22))) := HB4.out.alloc HB4.out.size _
                           have HR5 := Lib.hid (RV.of_sl (HRT.out.below HB5.out (Nat.le_refl _)))
                           clear hown4 hgrow4 hb4 hO4)
                        | (refine wp_append_rv _ _ rfl w4.heap.size V.heap.size _ 1 [.slice A4 l[j].length c4] rfl HN5.out _ (us.drop (c + 1)) rfl HR5.out (fun y hy => HONE.out y (List.mem_of_mem_drop hy)) (by rw [List.length_drop, HUL.out]; omega) (by simp) ?_
                           intro v6 w6 hown6 hgrow6
                           have hb6 : Below V.heap.size V w6 := HB5.out.grown hgrow6 (by have := HB4.out.size; simp; omega) (fun r e => Nat.le_trans HB4.out.size (HN5.out.lt r e).1)
                           have hs6 : w6.cell? ⟨b, off + j, none⟩ = some (.slice A1 l[j].length c1) ∧ Below V.heap.size V w6 := ⟨(hb6.cell (p := ⟨b, off + j, none⟩) hbV).trans hSV.1, hb6⟩
                           have h46 : Below w4.heap.size w4 w6 := ((Below.refl w4.heap.size w4).alloc (Nat.le_refl _) _).grown hgrow6 (by simp) (fun r e => (HN5.out.lt r e).1)
                           have HNEW := Lib.hid (HO4.out.next h46)
                           have HRV6 := Lib.hid (RV.own hown6 (by simp; omega))
                           have HB6 := Lib.hid hb6
                           clear hown6 hgrow6 hb6 h46
                           simp only [List.getElem_toArray, List.getElem_cons_succ, List.getElem_cons_zero])))
                      all_goals
                        go_wp2
                        go_meet
                        case rel => exact ⟨_, _, rfl, HRV6.out, HNEW.out, HB6.out⟩
                    · rw [if_neg hcc] at hR
                      have HRT : Hid (SL idV V V.heap.size (.slice (some ⟨b2, off2 + (c + 1), none⟩) (out.length - (c + 1)) (c2 - (c + 1))) (us.drop (c + 1))) := hR
                      clear hR
                      go_region_held_law (fun W => W.cell? ⟨b, off + j, none⟩ = some (.slice A1 l[j].length c1) ∧ Below V.heap.size V W) (first | assumption | exact keep_alloc hbV hSV.1 (by assumption) _)
                        ((rw [if_pos (by simp [Region.wanted])]; first
                        | (refine at_world ((V.alloc (.cells #[] 9)).drew) (by with_reducible rfl) ?_
                           refine wp_append_sl _ _ rfl V.heap.size V.heap.size _ 0 [] rfl HNV.out _ l[j] rfl HT1.out (by have := HPL.out; omega) (by simp) ?_
                           intro v4 w4 hown4 hgrow4
                           rw [List.nil_append, Nat.zero_add] at hown4
                           have hb4 : Below V.heap.size V w4 := HB1.out.grown hgrow4 (by simp) (fun r e => (HNV.out.lt r e).1)
                           have hs4 : w4.cell? ⟨b, off + j, none⟩ = some (.slice A1 l[j].length c1) ∧ Below V.heap.size V w4 := ⟨(hb4.cell (p := ⟨b, off + j, none⟩) hbV).trans hSV.1, hb4⟩
                           have hO4 := OwnP.sl (p := l[j]) hown4
                           obtain ⟨A4, c4, rfl⟩ := hO4.form
                           have HO4 := Lib.hid hO4
                           have HB4 := Lib.hid hb4
                           have HN5 : Hid ((w4.alloc (.cells #[.slice A4 l[j].length c4] 22)).ownsRow w4.heap.size 22 1 (.slice (some ⟨w4.heap.size, 0, none⟩) 1 1) 1 [.slice A4 l[j].length c4]) := own_one w4 _ _
                           have HB5 : Hid (Below V.heap.size V (w4.alloc (.cells #[.slice A4 l[j].length c4] 22))) := HB4.out.alloc HB4.out.size _
                           have HR5 := Lib.hid (RV.of_sl (HRT.out.below HB5.out (Nat.le_refl _)))
                           clear hown4 hgrow4 hb4 hO4)
                        | (refine wp_append_rv _ _ rfl w4.heap.size V.heap.size _ 1 [.slice A4 l[j].length c4] rfl HN5.out _ (us.drop (c + 1)) rfl HR5.out (fun y hy => HONE.out y (List.mem_of_mem_drop hy)) (by rw [List.length_drop, HUL.out]; omega) (by simp) ?_
                           intro v6 w6 hown6 hgrow6
                           have hb6 : Below V.heap.size V w6 := HB5.out.grown hgrow6 (by have := HB4.out.size; simp; omega) (fun r e => Nat.le_trans HB4.out.size (HN5.out.lt r e).1)
                           have hs6 : w6.cell? ⟨b, off + j, none⟩ = some (.slice A1 l[j].length c1) ∧ Below V.heap.size V w6 := ⟨(hb6.cell (p := ⟨b, off + j, none⟩) hbV).trans hSV.1, hb6⟩
                           have h46 : Below w4.heap.size w4 w6 := ((Below.refl w4.heap.size w4).alloc (Nat.le_refl _) _).grown hgrow6 (by simp) (fun r e => (HN5.out.lt r e).1)
                           have HNEW := Lib.hid (HO4.out.next h46)
                           have HRV6 := Lib.hid (RV.own hown6 (by simp; omega))
                           have HB6 := Lib.hid hb6
                           clear hown6 hgrow6 hb6 h46
                           simp only [List.getElem_toArray, List.getElem_cons_succ, List.getElem_cons_zero])))
                      all_goals
                        go_wp2
                        go_meet
                        case rel => exact ⟨_, _, rfl, HRV6.out, HNEW.out, HB6.out⟩
                case rest =>
                  obtain ⟨rv, vn, rfl, hrv, hnew, hb6⟩ := hcut
                  have HRV6 := Lib.hid hrv
                  have HNEW := Lib.hid hnew
                  have HB6 := Lib.hid hb6
                  have HB7 : Hid (Below wc.heap.size wc (wc.alloc (.cells #[] 22))) := (Below.refl _ _).alloc (Nat.le_refl _) _
                  have HN7 : Hid ((wc.alloc (.cells #[] 22)).ownsRow wc.heap.size 22 1 (.slice (some ⟨wc.heap.size, 0, none⟩) 0 0) 0 []) := own_new wc 22
                  have HF7 : Hid (RV (wc.alloc (.cells #[] 22)) _ (.slice A2 AT c2) (us.take AT)) := RV.of_sl ((HFI2.out.next HB6.out).next HB7.out)
                  have HTL : Hid ((us.take AT).length = AT) := by show (us.take AT).length = AT; rw [List.length_take, HUL.out]; omega
                  have HVN : Hid (vn.oneCell' = true) := by obtain ⟨_, _, e⟩ := HNEW.out.form; show vn.oneCell' = true; rw [e]; rfl
                  clear hrv hnew hb6 h0V hbV hSV
                  go_wp2_with
                    (first
                    | (at_builtin
                       refine wpList_append_rv rfl (.tmp 77) _ rfl wc.heap.size _ _ 0 [] rfl HN7.out _ (us.take AT) rfl HF7.out (fun y hy => HONE.out y (List.mem_of_mem_take hy)) (by rw [HTL.out]; omega) (by simp) ?_
                       intro v7 w7 hown7 hgrow7
                       rw [List.nil_append, Nat.zero_add] at hown7
                       have hb8 : Below wc.heap.size wc w7 := HB7.out.grown hgrow7 (by simp) (fun r e => (HN7.out.lt r e).1)
                       have HO7 := Lib.hid hown7
                       have HB8 := Lib.hid hb8
                       have HR8 := Lib.hid (HRV6.out.next hb8)
                       clear hown7 hgrow7 hb8)
                    | (at_builtin
                       refine wpList_append_rv rfl (.tmp 81) _ rfl wc.heap.size _ _ (us.take AT).length (us.take AT) rfl HO7.out _ (vn :: us.drop AT) rfl HR8.out (fun y hy => by rcases List.mem_cons.1 hy with rfl | hy; exact HVN.out; exact HONE.out y (List.mem_of_mem_drop hy)) (by rw [HTL.out, List.length_cons, List.length_drop, HUL.out]; omega) HB8.out.size ?_
                       intro v9 w9 hown9 hgrow9
                       have hb9 : Below wc.heap.size wc w9 := HB8.out.grown hgrow9 HB8.out.size (fun r e => (HO7.out.lt r e).1)
                       have HO9 := Lib.hid hown9
                       have HB9 := Lib.hid hb9
                       clear hown9 hgrow9 hb9))
                  have HBW : Hid (Below w.heap.size w w9) := (HBV.out.trans (HB6.out.mono HBV.out.size)).trans (HB9.out.mono (Nat.le_trans HBV.out.size HB6.out.size))
                  have HPP : Hid (∀ i (h1 : i < (us.take AT ++ vn :: us.drop AT).length) (h2 : i < (out.take AT ++ l[j] :: out.drop AT).length), SL encS w9 w9.heap.size (us.take AT ++ vn :: us.drop AT)[i] (out.take AT ++ l[j] :: out.drop AT)[i]) :=
                    pairs_insert (P := fun u p => SL encS w9 w9.heap.size u p) AT us out HUL.out hAT (fun i h1 h2 => ((HSV.out i h1 h2).next HB6.out).next HB9.out) vn l[j] (HNEW.out.next HB9.out)
                  have HRL9 : Hid (RL w9 v9 (us.take AT ++ vn :: us.drop AT) (out.take AT ++ l[j] :: out.drop AT)) :=
                    ⟨SL.own_id HO9.out (by rw [List.length_append]), by rw [List.length_append, List.length_append, List.length_cons, List.length_cons, List.length_take, List.length_take, List.length_drop, List.length_drop, HUL.out], HPP.out⟩
                  have HAS9 : Hid (Asc (out.take AT ++ l[j] :: out.drop AT)) := asc_insert HAS.out hAT HD.out (fun h0 => HFB.out rfl h0 (by omega))
                  have HPE9 := Lib.hid (perm_next (k := AT) hlt HPE.out)
                  go_roundw
                  case rel => exact ⟨j + 1, _, _, by omega, by go_num, HRL9.out, HAS9.out, HPE9.out, HBW.out⟩
                  case measure => simp [intOf]; omega
        · have H9 : Hid (SortIs l out 0) := .inr (.inr (.inr ⟨h5', HE.out, HAS.out, by have := HPE.out; rwa [List.take_of_length_le (by omega)] at this, rfl⟩))
          have HLL : Hid (LL wr wr.heap.size (.slice A2 out.length c2) out) := LL.of_rv (RV.of_sl HRL.out.1) HRL.out.2.1 HRL.out.2.2
          have i4 : ¬ (j : Int) < (l.length : Int) := by omega
          go_wp2_with fail
          go_ret2
          exact ⟨_, out, 0, rfl, HLL.out, H9.out, HBE.out⟩
end Go.Proofs.YtgfmfeaapffdfaaDoor

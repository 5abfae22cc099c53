/- The contract of put: writes and flushes on a device of the call's own. Condition: fewer than 400 writes. -/
import Derived.Test.YtcmhhiakmgooeaaAwake
namespace Go.Proofs.Ytcmhhiakmgooeaa
open Go.RowKit Go.Maps

/-- A write that a law makes. -/
structure Pt where
  at_ : UInt8
  b : UInt8
  f : Bool
/-- The sector that it writes, and what it writes there. -/
def Pt.wr (p : Pt) : Dv.Wr := (p.at_.toNat % 64, Dv.filled p.at_ p.b)
/-- A slice value that holds them. -/
def PL (w : World) (v : Value) (l : List Pt) : Prop :=
  (l = [] ∧ ∃ A c, v = .slice A 0 c) ∨
  ∃ q o c, v = .slice (some ⟨q, o, none⟩) l.length c ∧ ∀ i (h : i < l.length), w.cell? ⟨q, o + i * 3, none⟩ = some (.int .u8 (l[i].at_.toNat : Int)) ∧ w.cell? ⟨q, o + i * 3 + 1, none⟩ = some (.int .u8 (l[i].b.toNat : Int)) ∧ w.cell? ⟨q, o + i * 3 + 2, none⟩ = some (.bool l[i].f)
section
variable {w w' : World} {v : Value} {l : List Pt}
theorem PL.form (h : PL w v l) : ∃ A c, v = .slice A l.length c := by
  rcases h with ⟨rfl, A, c, rfl⟩ | ⟨q, o, c, rfl, _⟩
  · exact ⟨A, c, rfl⟩
  · exact ⟨_, c, rfl⟩
theorem PL.at {A : Option Addr} {n c : Nat} (h : PL w (.slice A n c) l) (hne : 0 < l.length) : ∃ q o, A = some ⟨q, o, none⟩ ∧ ∀ i (h : i < l.length), w.cell? ⟨q, o + i * 3, none⟩ = some (.int .u8 (l[i].at_.toNat : Int)) ∧ w.cell? ⟨q, o + i * 3 + 1, none⟩ = some (.int .u8 (l[i].b.toNat : Int)) ∧ w.cell? ⟨q, o + i * 3 + 2, none⟩ = some (.bool l[i].f) := by
  rcases h with ⟨rfl, _⟩ | ⟨q, o, c', e, hc⟩
  · simp at hne
  · injection e with e1 _ _; exact ⟨q, o, e1, hc⟩
theorem PL.below (h : PL w v l) (hb : Below w.heap.size w w') : PL w' v l := by
  rcases h with h | ⟨q, o, c, rfl, hc⟩
  · exact .inl h
  · refine .inr ⟨q, o, c, rfl, fun i hi => ?_⟩
    obtain ⟨h1, h2, h3⟩ := hc i hi
    exact ⟨(hb.cell (p := ⟨q, _, none⟩) (block_lt_of_cell h1)).trans h1, (hb.cell (p := ⟨q, _, none⟩) (block_lt_of_cell h2)).trans h2, (hb.cell (p := ⟨q, _, none⟩) (block_lt_of_cell h3)).trans h3⟩
end
/-- A device's rows behind them: the stable sectors, the cache. -/
def putF (st : List Dv.Sec × List Dv.Wr) (p : Pt) : List Dv.Sec × List Dv.Wr := if p.f then (Dv.put st.1 (st.2 ++ [p.wr]), []) else (st.1, st.2 ++ [p.wr])
def putL (st : List Dv.Sec × List Dv.Wr) (l : List Pt) : List Dv.Sec × List Dv.Wr := l.foldl putF st
theorem putL_succ (st : List Dv.Sec × List Dv.Wr) (l : List Pt) (k : Nat) (h : k < l.length) : putL st (l.take (k + 1)) = putF (putL st (l.take k)) l[k] := by
  unfold putL
  rw [List.take_succ_eq_append_getElem h, List.foldl_append]; rfl
theorem putL_len (st : List Dv.Sec × List Dv.Wr) (l : List Pt) : (putL st l).1.length = st.1.length ∧ (putL st l).2.length ≤ st.2.length + l.length := by
  unfold putL
  induction l generalizing st with
  | nil => exact ⟨rfl, by simp⟩
  | cons p r ih =>
    rw [List.foldl_cons]
    obtain ⟨h1, h2⟩ := ih (putF st p)
    have e1 : (putF st p).1.length = st.1.length := by unfold putF; cases p.f <;> simp [Dv.put_length]
    have e2 : (putF st p).2.length ≤ st.2.length + 1 := by unfold putF; cases p.f <;> simp
    exact ⟨h1.trans e1, by rw [List.length_cons]; omega⟩
theorem read_put (st : List Dv.Sec) (l : List Dv.Wr) (n : Nat) (hn : n < st.length) : Dv.readF ((Dv.put st l).getD n Dv.zeroS) n [] = Dv.readF (st.getD n Dv.zeroS) n l := by
  rw [Dv.put_get st n hn]; rfl
/-- What a sector reads as behind them. -/
theorem putL_read (st : List Dv.Sec × List Dv.Wr) (l : List Pt) (n : Nat) (hn : n < st.1.length) : Dv.readF ((putL st l).1.getD n Dv.zeroS) n (putL st l).2 = Dv.readF (Dv.readF (st.1.getD n Dv.zeroS) n st.2) n (l.map Pt.wr) := by
  unfold putL
  induction l generalizing st with
  | nil => rfl
  | cons p r ih =>
    rw [List.foldl_cons, ih]
    · rw [List.map_cons, show ∀ d, Dv.readF d n (p.wr :: r.map Pt.wr) = Dv.readF (if p.wr.1 = n then p.wr.2 else d) n (r.map Pt.wr) from fun _ => rfl]
      congr 1
      unfold putF
      cases p.f
      · exact Dv.readF_snoc _ _ _ _
      · simp only [if_true]
        rw [read_put _ _ _ hn]; exact Dv.readF_snoc _ _ _ _
    · unfold putF
      cases p.f
      · exact hn
      · simp only [if_true]; rw [Dv.put_length]; exact hn
theorem idx_wrap (x : UInt8) : IntKind.i64.wrap ((x.toNat : Int).tmod 64) = ((x.toNat % 64 : Nat) : Int) := by
  rw [Int.tmod_eq_emod_of_nonneg (by omega)]
  simp only [IntKind.wrap, IntKind.bits, IntKind.signed]
  simp
  omega
set_option maxRecDepth 100000 in
set_option maxHeartbeats 8000000 in
theorem put_any (w0 w : World) (b : Nat) (F : List Nat) (st : List Dv.Sec) (ca : List Dv.Wr) (tk : Nat) (O : Own w0 w b F (sAw st ca tk)) (v : Value) (l : List Pt) (hv : PL w0 v l) (hs : st.length = 64) (hn : ca.length + l.length < 400) (ht : tk + l.length < 1000000000000) :
    Calls Try.prog 18 #[.pointer (some ⟨b, 0, none⟩), v] w fun e w' => e = .returned (.bool true) ∧ ∃ F', Own w0 w' b F' (sAw (putL (st, ca) l).1 (putL (st, ca) l).2 (tk + l.length)) ∧ Fr w w' F ∧ ∀ i ∈ F', i ∈ F ∨ w.heap.size ≤ i := by
  obtain ⟨A, c0, rfl⟩ := hv.form
  have HO := Lib.hid O
  have HV := Lib.hid hv
  have HS := Lib.hid hs
  have HF : Hid (∀ (W : World) (x y : UInt8), Calls Try.prog 23 #[.int .u8 (x.toNat : Int), .int .u8 (y.toNat : Int)] W fun e w' => e = .returned (secV (Dv.filled x y)) ∧ Below W.heap.size W w') := fun W x y => filled_any W x y
  have HIX : Hid (∀ x : UInt8, IntKind.i64.wrap ((x.toNat : Int).tmod 64) = ((x.toNat % 64 : Nat) : Int)) := idx_wrap
  clear O hv hs
  go_enter Try.func18, Try.ntmps18
  go_wp2_with fail
  go_loopw [5] (fun i wr => ∃ k : Nat, k ≤ l.length ∧ i = .int .i64 k ∧ Hid (∃ F', Own w0 wr b F' (sAw (putL (st, ca) (l.take k)).1 (putL (st, ca) (l.take k)).2 (tk + k)) ∧ Fr w wr F ∧ ∀ i ∈ F', i ∈ F ∨ w.heap.size ≤ i)) (fun i _ => l.length - (intOf i).toNat)
  case atStart => exact ⟨0, by omega, rfl, F, HO.out, Fr.refl _ _, fun _ h => .inl h⟩
  case round =>
    obtain ⟨k, hk, rfl, HR⟩ := hrel
    by_cases hlt : k < l.length
    · have hltI : (k : Int) < (l.length : Int) := by omega
      obtain ⟨F1, O1, hf1, hn1⟩ := HR.out
      obtain ⟨q, o, hA, hcc⟩ := HV.out.at (by omega)
      subst hA
      have HPC : Hid (∀ W, Below w0.heap.size w0 W → W.cell? ⟨q, o + k * 3, none⟩ = some (.int .u8 (l[k].at_.toNat : Int)) ∧ W.cell? ⟨q, o + k * 3 + 1, none⟩ = some (.int .u8 (l[k].b.toNat : Int)) ∧ W.cell? ⟨q, o + k * 3 + 2, none⟩ = some (.bool l[k].f)) := fun W hW => by
        obtain ⟨h1, h2, h3⟩ := hcc k hlt
        exact ⟨(hW.cell (p := ⟨q, _, none⟩) (block_lt_of_cell h1)).trans h1, (hW.cell (p := ⟨q, _, none⟩) (block_lt_of_cell h2)).trans h2, (hW.cell (p := ⟨q, _, none⟩) (block_lt_of_cell h3)).trans h3⟩
      have hlen := putL_len (st, ca) (l.take k)
      rw [List.length_take, Nat.min_eq_left hk] at hlen
      have HL := Lib.hid hlen
      have hsucc := putL_succ (st, ca) l k hlt
      obtain ⟨p, hp⟩ : ∃ p, p = l[k] := ⟨_, rfl⟩
      rw [← hp] at HPC hsucc
      obtain ⟨⟨st1, ca1⟩, hst1⟩ : ∃ s1, s1 = putL (st, ca) (l.take k) := ⟨_, rfl⟩
      rw [← hst1] at O1 HL hsucc
      have HSU := Lib.hid hsucc
      have O1h := Lib.hid O1
      have HN1 := Lib.hid hn1
      have HF1 := Lib.hid hf1
      have hS0 := HPC.out wr.drew (below_drewN O1.bel 1)
      obtain ⟨pa, pb, pf⟩ := p
      have hpa : (pa.toNat : Int) < 256 := by have := pa.toNat_lt; omega
      have hpa0 : (0 : Int) ≤ (pa.toNat : Int) := by omega
      simp only at hS0
      clear hcc hlen hsucc hst1 hp O1 hf1 hn1
      cases pf
      · go_wp2_with fail
        first
        | (go_region_held (fun w' => w'.cell? ⟨q, o + k * 3, none⟩ = some (.int .u8 (pa.toNat : Int)) ∧ w'.cell? ⟨q, o + k * 3 + 1, none⟩ = some (.int .u8 (pb.toNat : Int)) ∧ w'.cell? ⟨q, o + k * 3 + 2, none⟩ = some (.bool false)) (assumption)
            (first
             | (go_at_call 23; refine (HF.out _ pa pb).mono ?_; rintro e w5 ⟨rfl, hb5⟩; have O5 := Lib.hid (Own.below (show Own w0 wr.drew b F1 _ from O1h.out.drewN 1) hb5); have s5 := HPC.out _ O5.out.bel; (try simp only at s5); have HB5 := Lib.hid hb5; clear hb5)
             | (go_at_call 24; refine (wr_step O5.out _ (pa.toNat % 64) (Dv.filled pa pb) (HIX.out pa) (by have := HL.out.1; have := HS.out; simp at *; omega) (by have := HL.out.2; simp at *; omega) (by omega)).mono ?_; rintro e w6 ⟨rfl, F6, ho6, hf6, hn6⟩; have O6 := Lib.hid ho6; have s6 := HPC.out _ ho6.bel; (try simp only at s6); have HF6 := Lib.hid hf6; have HN6 := Lib.hid hn6; clear ho6 hf6 hn6)))
        | fail
        have HX : Hid (∃ F', Own w0 w6 b F' (sAw (putL (st, ca) (l.take (k + 1))).1 (putL (st, ca) (l.take (k + 1))).2 (tk + (k + 1))) ∧ Fr w w6 F ∧ ∀ i ∈ F', i ∈ F ∨ w.heap.size ≤ i) := by
          rw [HSU.out]
          have h1 : Fr w w5 F := (HF1.out.drewN 1).trans (Fr.of_below HB5.out F) (fun i hi => .inl hi)
          exact ⟨F6, O6.out, h1.trans HF6.out HN1.out, fun i hi => by
            rcases HN6.out i hi with h | h
            · exact HN1.out i h
            · exact .inr (Nat.le_trans h1.size h)⟩
        clear hS0 s5 s6 HF6 HN6 O6 O5 HB5
        go_wp2_with fail
        go_roundw
        case rel => exact ⟨k + 1, by omega, by go_num, HX.out⟩
        case measure => simp [intOf]; omega
      · go_wp2_with fail
        first
        | (go_region_held (fun w' => w'.cell? ⟨q, o + k * 3, none⟩ = some (.int .u8 (pa.toNat : Int)) ∧ w'.cell? ⟨q, o + k * 3 + 1, none⟩ = some (.int .u8 (pb.toNat : Int)) ∧ w'.cell? ⟨q, o + k * 3 + 2, none⟩ = some (.bool true)) (assumption)
            (first
             | (go_at_call 23; refine (HF.out _ pa pb).mono ?_; rintro e w5 ⟨rfl, hb5⟩; have O5 := Lib.hid (Own.below (show Own w0 wr.drew b F1 _ from O1h.out.drewN 1) hb5); have s5 := HPC.out _ O5.out.bel; (try simp only at s5); have HB5 := Lib.hid hb5; clear hb5)
             | (go_at_call 24; refine (wr_step O5.out _ (pa.toNat % 64) (Dv.filled pa pb) (HIX.out pa) (by have := HL.out.1; have := HS.out; simp at *; omega) (by have := HL.out.2; simp at *; omega) (by omega)).mono ?_; rintro e w6 ⟨rfl, F6, ho6, hf6, hn6⟩; have O6 := Lib.hid ho6; have s6 := HPC.out _ ho6.bel; (try simp only at s6); have HF6 := Lib.hid hf6; have HN6 := Lib.hid hn6; clear ho6 hf6 hn6)
             | (go_at_call 19; refine (fl_step O6.out).mono ?_; rintro e w7 ⟨rfl, F7, ho7, hf7, hn7⟩; have O7 := Lib.hid ho7; have s7 := HPC.out _ ho7.bel; (try simp only at s7); have HF7 := Lib.hid hf7; have HN7 := Lib.hid hn7; clear ho7 hf7 hn7)))
        | fail
        have HX : Hid (∃ F', Own w0 w7 b F' (sAw (putL (st, ca) (l.take (k + 1))).1 (putL (st, ca) (l.take (k + 1))).2 (tk + (k + 1))) ∧ Fr w w7 F ∧ ∀ i ∈ F', i ∈ F ∨ w.heap.size ≤ i) := by
          rw [HSU.out]
          have h1 : Fr w w5 F := (HF1.out.drewN 1).trans (Fr.of_below HB5.out F) (fun i hi => .inl hi)
          have h2 : ∀ i ∈ F6, i ∈ F ∨ w.heap.size ≤ i := fun i hi => by
            rcases HN6.out i hi with h | h
            · exact HN1.out i h
            · exact .inr (Nat.le_trans h1.size h)
          have h3 : Fr w w6 F := h1.trans HF6.out HN1.out
          exact ⟨F7, O7.out, h3.trans HF7.out h2, fun i hi => by
            rcases HN7.out i hi with h | h
            · exact h2 i h
            · exact .inr (Nat.le_trans h3.size h)⟩
        clear hS0 s5 s6 s7 HF6 HN6 O6 O5 HB5 O7 HF7 HN7
        go_wp2_with fail
        go_roundw
        case rel => exact ⟨k + 1, by omega, by go_num, HX.out⟩
        case measure => simp [intOf]; omega
    · obtain rfl : k = l.length := by omega
      rw [List.take_length] at HR
      have hltI : ¬ ((l.length : Int) < (l.length : Int)) := by omega
      go_wp2_with fail
      go_ret
      exact ⟨rfl, HR.out⟩
end Go.Proofs.Ytcmhhiakmgooeaa

/- The contracts of counted and of the reads of package records. Conditions: the reader's cell holds a slice that holds the bytes, which lie below the reader. -/
import Derived.Test.YtelpgjaagkojeaaRead
import Derived.Laws.BytesArg
import Derived.Laws.ResultCell
import Derived.Deep.RegionHeldLaw
import Derived.Deep.RegionLaw
namespace Go.Proofs.Ytelpgjaagkojeaa
open Go.RowKit

/-- The number of elements, the bytes of their number, the error. -/
def cntR (y : List UInt8) (limit bytes : Nat) : Nat × Nat × Nat :=
  if (Rm.pgs y).2.2 ≠ 0 then (0, 0, (Rm.pgs y).2.2) else if limit < (Rm.pgs y).1 then (0, 0, 3) else if y.length - (Rm.pgs y).2.1 < (Rm.pgs y).1 * bytes then (0, 0, 10) else ((Rm.pgs y).1, (Rm.pgs y).2.1, 0)
/-- What counted hands back. -/
def CoE (w : World) (p lim : Nat) (y : List UInt8) (limit bytes : Nat) (e : Ending) (w' : World) : Prop :=
  ((cntR y limit bytes).2.2 ≠ 0 ∧ e = .returned (.tuple #[.slice none 0 0, .int .i64 ((cntR y limit bytes).2.2 : Int)]) ∧ w.grownBy w' (some p)) ∨
  ((cntR y limit bytes).2.2 = 0 ∧ ∃ v, e = .returned (.tuple #[v, .int .i64 0]) ∧ SL encB w' lim v ((y.drop (cntR y limit bytes).2.1).take ((cntR y limit bytes).1 * bytes)) ∧ RB w' p lim (y.drop ((cntR y limit bytes).2.1 + (cntR y limit bytes).1 * bytes)) ∧ w.grownBy w' (some p))
theorem CoE.bad {w w' : World} {p lim limit bytes err : Nat} {y : List UInt8} {e : Ending} (h : cntR y limit bytes = (0, 0, err)) (h0 : err ≠ 0) (he : e = .returned (.tuple #[.slice none 0 0, .int .i64 (err : Int)])) (hg : w.grownBy w' (some p)) : CoE w p lim y limit bytes e w' := by
  unfold CoE; rw [h]; exact .inl ⟨h0, he, hg⟩
set_option maxRecDepth 100000 in
set_option maxHeartbeats 1000000 in
theorem counted_any (w : World) (p lim : Nat) (y : List UInt8) (limit bytes : Nat) (hr : RB w p lim y) (hp : lim ≤ p) (hy : y.length ≤ 9223372036854775807) (hl : limit ≤ 400) (hb : bytes = 1 ∨ bytes = 4) :
    Calls Try.prog 53 #[.pointer (some ⟨p, 0, none⟩), .int .u64 (limit : Int), .int .i64 (bytes : Int)] w fun e w' => CoE w p lim y limit bytes e w' := by
  have HG := Lib.hid (groups_any w p lim y hr hp hy)
  obtain ⟨n, u, err, hpg⟩ : ∃ n u err, Rm.pgs y = (n, u, err) := ⟨_, _, _, rfl⟩
  have hc : cntR y limit bytes = if err ≠ 0 then (0, 0, err) else if limit < n then (0, 0, 3) else if y.length - u < n * bytes then (0, 0, 10) else (n, u, 0) := by unfold cntR; rw [hpg]
  have HP := Lib.hid hpg
  have hn64 : err = 0 → n < 18446744073709551616 := fun e => by subst e; exact Rm.pg_num_lt 10 0 0 y n u hpg rfl (by simp)
  clear hr hpg
  go_enter Try.func53, Try.ntmps53
  go_wp2_with fail
  refine HG.out.mono ?_
  rintro e w1 ⟨he, h1, h2⟩
  rw [HP.out] at he h1
  simp only at he h1
  subst he
  have HG1 := Lib.hid h2
  clear h2 HG
  by_cases h0 : err = 0
  · subst h0
    have HR1 := Lib.hid (h1 rfl)
    have hn := hn64 rfl
    rw [if_neg (by simp)] at hc
    clear h1 hn64
    by_cases hlt : limit < n
    · have hltI : (limit : Int) < (n : Int) := by omega
      rw [if_pos hlt] at hc
      have HC := Lib.hid hc
      clear hc
      go_wp2_with fail
      go_ret2
      exact CoE.bad HC.out (by decide) rfl HG1.out
    · have hltI : ¬ (limit : Int) < (n : Int) := by omega
      rw [if_neg hlt] at hc
      have HC := Lib.hid hc
      have hyl : (y.drop u).length ≤ 9223372036854775807 := by rw [List.length_drop]; omega
      have hm4 : n * bytes ≤ 1600 := Nat.le_trans (Nat.mul_le_mul (show n ≤ 400 by omega) (show bytes ≤ 4 by omega)) (by omega)
      have HT := Lib.hid (take_any w1 p lim (y.drop u) (n * bytes) HR1.out hp hyl (by omega))
      have hnI : (n : Int) ≤ 400 := by omega
      clear hc hm4
      rcases hb with rfl | rfl
      all_goals
        first
        | rw [show ((n * 1 : Nat) : Int) = (n : Int) by omega] at HT
        | rw [show ((n * 4 : Nat) : Int) = (n : Int) * 4 by omega] at HT
        go_wp2_with fail
        refine HT.out.mono ?_
        rintro e w2 (⟨h1, rfl, rfl⟩ | ⟨h1, v, rfl, h2, h3, h4⟩)
        · have hc := HC.out
          rw [List.length_drop] at h1
          rw [if_pos h1] at hc
          have HC := Lib.hid hc
          clear hc h1
          go_wp2_with fail
          go_ret2
          exact CoE.bad HC.out (by decide) rfl HG1.out
        · have hc := HC.out
          rw [List.length_drop] at h1
          rw [if_neg (by omega)] at hc
          have HC := Lib.hid hc
          have H2 := Lib.hid h2
          have H3 := Lib.hid h3
          have H4 := Lib.hid h4
          clear hc h1 h2 h3 h4
          go_wp2_with fail
          go_ret2
          refine .inr ?_
          rw [HC.out]
          exact ⟨rfl, v, rfl, H2.out, by have := H3.out; rw [List.drop_drop] at this; exact this, grown_trans HG1.out H4.out⟩
  · have HC : Hid (cntR y limit bytes = (0, 0, err)) := by rw [if_pos h0] at hc; exact hc
    have hd : ((err : Int) != 0) = true := by rw [bne_iff_ne]; omega
    have H0 := Lib.hid h0
    clear hc h1 hn64 h0
    go_wp2_with fail
    go_ret2
    exact CoE.bad HC.out H0.out rfl HG1.out

/-- A row of numbers of the call's own. -/
def OL (w : World) (base : Nat) (v : Value) (l : List UInt32) : Prop := w.ownsRow base 52 1 v l.length (l.map enc32)
/-- A value of a record whose list is the call's own. -/
def VO (w : World) (base : Nat) (v : Value) (x : Rm.Val) : Prop := ∃ lv, v = .agg #[.int .u64 (x.num : Int), .string ⟨x.str.toArray⟩, lv] ∧ OL w base lv x.lst ∧ x.num < 18446744073709551616
theorem OL.nil (w : World) (base : Nat) : OL w base (.slice none 0 0) [] := World.ownsRow_nil w base 52 1
/-- What a read hands back. -/
def RdE (w : World) (p lim : Nat) (y : List UInt8) (c : UInt8) (e : Ending) (w' : World) : Prop :=
  ∃ v, e = .returned (.tuple #[v, .int .i64 ((Rm.one c y).2.2 : Int)]) ∧ VO w' w.heap.size v (Rm.one c y).1 ∧ ((Rm.one c y).2.2 = 0 → RB w' p lim (y.drop (Rm.one c y).2.1)) ∧ w.grownBy w' (some p)
theorem VO.num (w : World) (lim n : Nat) (h : n < 18446744073709551616) : VO w lim (.agg #[.int .u64 (n : Int), .string ⟨#[]⟩, .slice none 0 0]) ⟨n, [], []⟩ := ⟨_, rfl, OL.nil _ _, h⟩
theorem RdE.of {w w' : World} {p lim : Nat} {y : List UInt8} {c : UInt8} {e : Ending} {x : Rm.Val} {n err : Nat} (h : Rm.one c y = (x, n, err)) (v : Value) (he : e = .returned (.tuple #[v, .int .i64 (err : Int)])) (hv : VO w' w.heap.size v x) (h0 : err = 0 → RB w' p lim (y.drop n)) (hg : w.grownBy w' (some p)) : RdE w p lim y c e w' := by
  unfold RdE; rw [h]; exact ⟨v, he, hv, h0, hg⟩
theorem uRc : Try.prog.underlying 49 = some (.struct (Try.prog.fieldsOf 49)) := by kernel_rfl
theorem iRc : (Try.prog.info? 49).map (·.size) = some 3 := by kernel_rfl
theorem loadRc {w : World} {b : Nat} {x y z : Value} (h : Blk w b #[x, y, z] 49) : (loadVar 49 ⟨b, 0, none⟩).run Try.prog w = .ok (.agg #[x, y, z]) w :=
  run_loadVar_row w b _ 49 _ _ _ h uRc rfl (by rw [iRc]; rfl)
/-- The results of a read: a value in a cell, and an error. -/
theorem results_rc {fn : Func} {p u : Tmp} (h : fn.results = #[.cell p 49, .tmp u]) (tmps : Array Value) (w : World) (q : Nat) (x y z : Value) (hp : tmps.getD p undef = .pointer (some ⟨q, 0, none⟩)) (hb : Blk w q #[x, y, z] 49) :
    (results fn tmps).run Try.prog w = .ok (.tuple #[.agg #[x, y, z], tmps.getD u undef]) w := by
  rw [results_cell_tmp h, hp]
  have : (asAddr (.pointer (some ⟨q, 0, none⟩))).run Try.prog w = .ok ⟨q, 0, none⟩ w := rfl
  rw [this]
  simp only [Result.andThen_ok, loadRc hb]
theorem one3 (x y z : Value) (h1 : x.oneCell' = true) (h2 : y.oneCell' = true) (h3 : z.oneCell' = true) : (#[x, y, z] : Array Value).all (·.oneCell') = true := by simp [h1, h2, h3]
/-- The block of a result that a call has just laid, behind the copy of the kind. -/
theorem box_blk (w : World) (p : Obj) (cs : Array Value) (t : TypeId) : Blk ((w.alloc p).alloc (.cells cs t)) (w.heap.size + 1) cs t := by
  have := Blk.new (w.alloc p) cs t
  rwa [show (w.alloc p).heap.size = w.heap.size + 1 by simp] at this
theorem RB.two {w : World} {p lim : Nat} {y : List UInt8} (h : RB w p lim y) (hp : p < w.heap.size) (hl : lim ≤ p) (o q : Obj) : RB ((w.alloc o).alloc q) p lim y := by
  obtain ⟨rv, h1, h2⟩ := h
  have hb : Below w.heap.size w ((w.alloc o).alloc q) := ((Below.refl _ _).alloc (Nat.le_refl _) _).alloc (by simp) _
  exact ⟨rv, h1.below hb hp, h2.below hb (by omega)⟩
theorem grown_two (w : World) (o q : Obj) (r : Option Nat) : w.grownBy ((w.alloc o).alloc q) r := grown_below (((Below.refl _ _).alloc (Nat.le_refl _) _).alloc (by simp) _) _
theorem setRow_blk {w : World} {g : Nat} {old : Array Value} {t : TypeId} (h : Blk w g old t) (cs : Array Value) : Blk (w.setRow g cs) g cs t := setRow_heap w g _ _ _ _ h
theorem RB.setRow {w : World} {p lim g : Nat} {y : List UInt8} (h : RB w p lim y) (cs : Array Value) (hg : g ≠ p) (hl : lim ≤ g) : RB (w.setRow g cs) p lim y := by
  obtain ⟨rv, h1, h2⟩ := h
  refine ⟨rv, h1.of_block (setRow_other _ _ _ _ (fun e => hg e.symm)), ?_⟩
  rcases h2 with h2 | ⟨b, off, c, rfl, hb, hcap, hc⟩
  · exact .inl h2
  · exact .inr ⟨b, off, c, rfl, hb, hcap, fun i hi => (World.cell?_of_block (w := w) (a := ⟨b, off + i, none⟩) (setRow_other _ _ _ _ (by show b ≠ g; omega))).trans (hc i hi)⟩
theorem grown_setRow {w a : World} {g : Nat} {cs : Array Value} {r : Option Nat} (h : w.grownBy a r) (hg : w.heap.size ≤ g) : w.grownBy (a.setRow g cs) r :=
  ⟨h.os, h.tape, h.output, by simpa using h.size, fun k hk hr => (setRow_other _ _ _ _ (by omega)).trans (h.block k hk hr)⟩
set_option maxRecDepth 100000 in
set_option maxHeartbeats 1000000 in
theorem rdFixed_any (w : World) (p lim : Nat) (y : List UInt8) (c : UInt8) (k : Int) (n : Nat) (F1 F2 F3 : Value) (hr : RB w p lim y) (hp : lim ≤ p) (hpw : p < w.heap.size) (hy : y.length ≤ 9223372036854775807) (hn : Rm.wid c = n) (h0 : 0 < n) (h8 : n ≤ 8) :
    Calls Try.prog 39 #[.agg #[.int .u8 k, .int .i64 (n : Int), F1, F2, F3], .pointer (some ⟨p, 0, none⟩)] w fun e w' => RdE w p lim y c e w' := by
  have hone : Rm.one c y = if y.length < n then (Rm.v0, 0, 10) else (⟨Rm.num (y.take n), [], []⟩, n, 0) := by
    unfold Rm.one; rw [hn, if_pos h0]
  have HONE := Lib.hid hone
  have HR := Lib.hid hr
  clear hone hr
  go_enter Try.func39, Try.ntmps39
  go_wp2_with fail
  refine (take_any _ p lim y n (HR.out.two hpw hp _ _) hp hy (by omega)).mono ?_
  intro e w1 hT
  obtain ⟨v, err, z, u, rfl, hz, hzl, h1, h2, h3, h4⟩ : ∃ v err z u, e = .returned (.tuple #[v, .int .i64 ((err : Nat) : Int)]) ∧ SL encB w1 lim v z ∧ z.length ≤ 8 ∧ Rm.one c y = (⟨Rm.num z, [], []⟩, u, err) ∧ (err = 0 → RB w1 p lim (y.drop u)) ∧ w.grownBy w1 (some p) ∧ Blk w1 (w.heap.size + 1) #[.int .u64 0, .string ⟨#[]⟩, .slice none 0 0] 49 := by
    rcases hT with ⟨h1, rfl, rfl⟩ | ⟨h1, v, rfl, h2, h3, h4⟩
    · exact ⟨_, 10, [], 0, rfl, SL.nil _ _, by simp, by rw [HONE.out, if_pos h1]; rfl, fun h => by omega, grown_two _ _ _ _, box_blk _ _ _ _⟩
    · exact ⟨v, 0, _, n, rfl, h2, by rw [List.length_take]; omega, by rw [HONE.out, if_neg (by omega)], fun _ => h3, grown_trans (grown_two _ _ _ _) h4, (box_blk _ _ _ _).grown h4 (by simp; omega)⟩
  have H1 := Lib.hid h1
  have H2 := Lib.hid h2
  have H3 := Lib.hid h3
  have H4 := Lib.hid h4
  have HF := Lib.hid (fixed_any w1 lim v z hz hzl)
  have hn64 := Rm.num_lt z
  have hn2 : Rm.num z < 18446744073709551616 := Nat.lt_of_lt_of_le hn64 (Nat.le_trans (Nat.pow_le_pow_right (by omega) hzl) (by omega))
  obtain ⟨m, hm⟩ : ∃ m, m = Rm.num z := ⟨_, rfl⟩
  rw [← hm] at H1 HF hn2
  clear hT h1 h2 h3 h4 hz hn64 hm HONE
  go_wp2_with fail
  refine HF.out.mono ?_
  rintro e w' ⟨rfl, rfl⟩
  go_wp2_with (refine wpList_store_row rfl 49 (.tmp 4) (.tmp 17) rfl (w.heap.size + 1) #[.int .u64 (m : Int), .string ⟨#[]⟩, .slice none 0 0] rfl rfl 49 _ H4.out (by rw [iRc]; rfl) rfl (one3 _ _ _ rfl rfl rfl) ?_)
  have HB := setRow_blk H4.out #[.int .u64 (m : Int), .string ⟨#[]⟩, .slice none 0 0]
  refine bodyPost_ret (results_rc rfl _ _ (w.heap.size + 1) _ _ _ rfl HB) rfl ?_
  exact RdE.of H1.out _ rfl (VO.num _ _ m hn2) (fun h => (H2.out h).setRow _ (by omega) (by omega)) (grown_setRow H3.out (by omega))
theorem pg_err : ∀ f i acc b, (Rm.pg f i acc b).2.2 ≠ 0 → (Rm.pg f i acc b).1 = 0 := by
  intro f
  induction f with
  | zero => intro i acc b _; rfl
  | succ f ih =>
    intro i acc b h
    cases b with
    | nil => rfl
    | cons c r =>
      simp only [Rm.pg] at h ⊢
      split
      · rfl
      · rename_i h1
        rw [if_neg h1] at h
        split
        · rename_i h2
          rw [if_pos h2] at h
          split
          · rfl
          · rename_i h3
            rw [if_neg h3] at h
            exact absurd rfl h
        · rename_i h2
          rw [if_neg h2] at h
          exact ih _ _ _ h
set_option maxRecDepth 100000 in
set_option maxHeartbeats 1000000 in
theorem rdGroups_any (w : World) (p lim : Nat) (y : List UInt8) (k n : Int) (F1 F2 F3 : Value) (hr : RB w p lim y) (hp : lim ≤ p) (hpw : p < w.heap.size) (hy : y.length ≤ 9223372036854775807) :
    Calls Try.prog 41 #[.agg #[.int .u8 k, .int .i64 n, F1, F2, F3], .pointer (some ⟨p, 0, none⟩)] w fun e w' => RdE w p lim y 118 e w' := by
  have HR := Lib.hid hr
  clear hr
  go_enter Try.func41, Try.ntmps41
  go_wp2_with fail
  refine (groups_any _ p lim y (HR.out.two hpw hp _ _) hp hy).mono ?_
  intro e w1 hT
  obtain ⟨m, u, err, hpg⟩ : ∃ m u err, Rm.pgs y = (m, u, err) := ⟨_, _, _, rfl⟩
  obtain ⟨he, hb, hg⟩ := hT
  have hm0 : err ≠ 0 → m = 0 := fun h => by have := pg_err 10 0 0 y; unfold Rm.pgs at hpg; rw [hpg] at this; exact this h
  have hm64 : m < 18446744073709551616 := by
    by_cases h : err = 0
    · subst h; exact Rm.pg_num_lt 10 0 0 y m u hpg rfl (by simp)
    · rw [hm0 h]; omega
  rw [hpg] at he hb
  simp only at he hb
  subst he
  have H1 : Hid (∃ u', Rm.one 118 y = (⟨m, [], []⟩, u', err) ∧ (err = 0 → RB w1 p lim (y.drop u'))) := by
    by_cases h : err = 0
    · refine ⟨u, ?_, hb⟩
      unfold Rm.one
      rw [hpg]
      simp [Rm.wid, h]
    · refine ⟨0, ?_, fun h' => absurd h' h⟩
      unfold Rm.one
      rw [hpg, hm0 h]
      simp [Rm.wid, h, Rm.v0]
  have H3 := Lib.hid (grown_trans (grown_two _ _ _ _) hg)
  have H4 := Lib.hid ((box_blk _ _ _ _).grown hg (by simp; omega))
  clear hb hg hpg hm0
  go_wp2_with (refine wpList_store_row rfl 49 (.tmp 4) (.tmp 14) rfl (w.heap.size + 1) #[.int .u64 (m : Int), .string ⟨#[]⟩, .slice none 0 0] rfl rfl 49 _ H4.out (by rw [iRc]; rfl) rfl (one3 _ _ _ rfl rfl rfl) ?_)
  have HB := setRow_blk H4.out #[.int .u64 (m : Int), .string ⟨#[]⟩, .slice none 0 0]
  refine bodyPost_ret (results_rc rfl _ _ (w.heap.size + 1) _ _ _ rfl HB) rfl ?_
  obtain ⟨u', h1, h2⟩ := H1.out
  exact RdE.of h1 _ rfl (VO.num _ _ m hm64) (fun h => (h2 h).setRow _ (by omega) (by omega)) (grown_setRow H3.out (by omega))
theorem nums_str (y : List UInt8) : strOfNums (y.map fun c => (c.toNat : Int)) = ⟨y.toArray⟩ := by
  have e : (y.map fun c => (c.toNat : Int)).map (fun n : Int => UInt8.ofNat n.toNat) = y := by
    rw [List.map_map]
    have : ((fun n : Int => UInt8.ofNat n.toNat) ∘ fun c : UInt8 => (c.toNat : Int)) = id := by funext c; simp
    rw [this, List.map_id]
  unfold strOfNums
  rw [e]
theorem str_sl {w : World} {lim : Nat} {v : Value} {y : List UInt8} (h : SL encB w lim v y) : (convert 25 9 v).run Try.prog w = .ok (.string ⟨y.toArray⟩) w := by
  rcases h with ⟨rfl, rfl | ⟨ad, c, rfl⟩⟩ | ⟨b, off, c, rfl, hb, hcap, hc⟩
  · exact run_convert_bytes_nil w 25 5 Try.underlying25 Try.underlying5 0 0 9 Try.underlying9
  · have := run_convert_bytes_string w 25 9 5 (some ad) 0 c Try.underlying25 Try.underlying5 Try.underlying9
    rw [this]
    simp [Conv.bytesToString, loadCells, loadCellsFrom]
    rfl
  · have := run_convert_bytes_arg (P := Try.prog) w 25 5 Try.underlying25 Try.underlying5 b off y.length c (y.map fun c => (c.toNat : Int)) (by simp) (fun i hi => by
      rw [hc i hi]
      simp [encB, List.getD_eq_getElem?_getD, hi]) 9 Try.underlying9
    rw [this, nums_str]
theorem one_text (y : List UInt8) : Rm.one 115 y = if (cntR y 400 1).2.2 ≠ 0 then (Rm.v0, 0, (cntR y 400 1).2.2) else (⟨0, (y.drop (cntR y 400 1).2.1).take (cntR y 400 1).1, []⟩, (cntR y 400 1).2.1 + (cntR y 400 1).1, 0) := by
  unfold Rm.one cntR
  rw [if_neg (show ¬ 0 < Rm.wid 115 by decide)]
  obtain ⟨m, u, err, hpg⟩ : ∃ m u err, Rm.pgs y = (m, u, err) := ⟨_, _, _, rfl⟩
  rw [hpg]
  simp only [Nat.mul_one]
  by_cases h : err = 0
  · subst h
    simp only [ne_eq, not_true_eq_false, if_false]
    rw [if_neg (show ¬ (115 : UInt8) = 118 by decide)]
    simp only [if_true]
    by_cases h1 : 400 < m
    · simp [h1]
    · by_cases h2 : y.length - u < m
      · simp [h1, h2]
      · simp [h1, h2]
  · simp [h]
set_option maxRecDepth 100000 in
set_option maxHeartbeats 1000000 in
theorem rdText_any (w : World) (p lim : Nat) (y : List UInt8) (k : Int) (F1 F2 F3 : Value) (hr : RB w p lim y) (hp : lim ≤ p) (hpw : p < w.heap.size) (hy : y.length ≤ 9223372036854775807) :
    Calls Try.prog 44 #[.agg #[.int .u8 k, .int .i64 1, F1, F2, F3], .pointer (some ⟨p, 0, none⟩)] w fun e w' => RdE w p lim y 115 e w' := by
  have HR := Lib.hid hr
  clear hr
  go_enter Try.func44, Try.ntmps44
  go_wp2_with fail
  refine (counted_any _ p lim y 400 1 (HR.out.two hpw hp _ _) hp hy (by omega) (.inl rfl)).mono ?_
  intro e w1 hT
  obtain ⟨v, err, z, u, rfl, hz, h1, h2, h3, h4⟩ : ∃ v err z u, e = .returned (.tuple #[v, .int .i64 ((err : Nat) : Int)]) ∧ SL encB w1 lim v z ∧ Rm.one 115 y = (⟨0, z, []⟩, u, err) ∧ (err = 0 → RB w1 p lim (y.drop u)) ∧ w.grownBy w1 (some p) ∧ Blk w1 (w.heap.size + 1) #[.int .u64 0, .string ⟨#[]⟩, .slice none 0 0] 49 := by
    rcases hT with ⟨h1, rfl, h3⟩ | ⟨h1, v, rfl, h2, h3, h4⟩
    · exact ⟨_, _, [], 0, rfl, SL.nil _ _, by rw [one_text, if_pos h1]; rfl, fun h => absurd h h1, grown_trans (grown_two _ _ _ _) h3, (box_blk _ _ _ _).grown h3 (by simp; omega)⟩
    · rw [Nat.mul_one] at h2 h3
      exact ⟨v, 0, _, _, rfl, h2, by rw [one_text, if_neg (by rw [h1]; simp)], fun _ => h3, grown_trans (grown_two _ _ _ _) h4, (box_blk _ _ _ _).grown h4 (by simp; omega)⟩
  have H1 := Lib.hid h1
  have H2 := Lib.hid h2
  have H3 := Lib.hid h3
  have H4 := Lib.hid h4
  have hcv := str_sl hz
  clear hT h1 h2 h3 h4 hz
  go_wp2_with (refine wpList_store_row rfl 49 (.tmp 4) (.tmp 17) rfl (w.heap.size + 1) #[.int .u64 0, .string ⟨z.toArray⟩, .slice none 0 0] rfl rfl 49 _ H4.out (by rw [iRc]; rfl) rfl (one3 _ _ _ rfl rfl rfl) ?_)
  have HB := setRow_blk H4.out #[.int .u64 0, .string ⟨z.toArray⟩, .slice none 0 0]
  refine bodyPost_ret (results_rc rfl _ _ (w.heap.size + 1) _ _ _ rfl HB) rfl ?_
  exact RdE.of H1.out _ rfl ⟨_, rfl, OL.nil _ _, by simp⟩ (fun h => (H2.out h).setRow _ (by omega) (by omega)) (grown_setRow H3.out (by omega))
theorem one_list (y : List UInt8) : Rm.one 108 y = if (cntR y 60 4).2.2 ≠ 0 then (Rm.v0, 0, (cntR y 60 4).2.2) else (⟨0, [], Rm.words (y.drop (cntR y 60 4).2.1) (cntR y 60 4).1⟩, (cntR y 60 4).2.1 + (cntR y 60 4).1 * 4, 0) := by
  unfold Rm.one cntR
  rw [if_neg (show ¬ 0 < Rm.wid 108 by decide)]
  obtain ⟨m, u, err, hpg⟩ : ∃ m u err, Rm.pgs y = (m, u, err) := ⟨_, _, _, rfl⟩
  rw [hpg]
  simp only [Nat.mul_comm 4]
  by_cases h : err = 0
  · subst h
    simp only [ne_eq, not_true_eq_false, if_false]
    rw [if_neg (show ¬ (108 : UInt8) = 118 by decide), if_neg (show ¬ (108 : UInt8) = 115 by decide)]
    by_cases h1 : 60 < m
    · simp [h1]
    · by_cases h2 : y.length - u < m * 4
      · simp [h1, h2]
      · simp [h1, h2]
  · simp [h]
theorem words_take : ∀ (k : Nat) (b : List UInt8), Rm.words (b.take (4 * k)) k = Rm.words b k
  | 0, _ => rfl
  | k + 1, b => by
    simp only [Rm.words]
    rw [List.take_take, Nat.min_eq_left (by omega), List.drop_take, show 4 * (k + 1) - 4 = 4 * k by omega, words_take k]
theorem words_succ (z : List UInt8) (j : Nat) : Rm.words z (j + 1) = Rm.words z j ++ [UInt32.ofNat (Rm.num ((z.drop (4 * j)).take 4))] := Rm.words_snoc j z
theorem grown_new {w a b : World} {r : Option Nat} {g : Nat} (h : w.grownBy a r) (k : a.grownBy b (some g)) (hg : w.heap.size ≤ g) : w.grownBy b r :=
  ⟨k.os.trans h.os, k.tape.trans h.tape, k.output.trans h.output, Nat.le_trans h.size k.size, fun i hi hr => (k.block i (Nat.lt_of_lt_of_le hi h.size) (fun e => by have := Option.some.inj e; omega)).trans (h.block i hi hr)⟩
theorem info_u32 : (Try.prog.info? 52).map (fun i => (i.zero, i.size, i.bytes)) = some (some (.int .u32 0), 1, 4) := by kernel_rfl
theorem OL.one {w : World} {base : Nat} {v : Value} {l : List UInt32} (h : OL w base v l) : v.oneCell' = true := by
  rcases Go.Joins.ownsRow_forms h with ⟨rfl, _⟩ | ⟨g, cap, rfl⟩ <;> rfl
theorem OL.form3 {w : World} {base : Nat} {v : Value} {l : List UInt32} (h : OL w base v l) : ∃ A n c, v = .slice A n c := by
  rcases Go.Joins.ownsRow_forms h with ⟨rfl, _⟩ | ⟨g, cap, rfl⟩
  · exact ⟨_, _, _, rfl⟩
  · exact ⟨_, _, _, rfl⟩
theorem OL.apart {w : World} {base b : Nat} {v : Value} {l : List UInt32} (h : OL w base v l) {cs : Array Value} {t : TypeId} (hk : Blk w b cs t) (ht : t ≠ 52) : some b ≠ v.ownBlock := by
  intro e
  rcases h.2 with ⟨rfl, _⟩ | ⟨g, cap, cur, rfl, _, hg, _⟩
  · simp [Value.ownBlock] at e
  · have e' : b = g := by simpa [Value.ownBlock] using e
    subst e'
    have := hk.symm.trans hg
    injection this with this
    injection this with _ h2 _
    exact ht h2
theorem wp_append_u32 {w : World} {o : Oper} {a : Act} {K : Act → World → Prop} {Q : Exit → Act → World → Prop} (s x : Operand) (ho : o.op = .call { callee := .builtin .append, args := #[s, x], argTypes := #[47, 47] })
    (base : Nat) (v : Value) (l : List UInt32) (hs : a.eval s = v) (hown : OL w base v l) (c : UInt32) (g : Nat) (z : Int) (hz : z = (c.toNat : Int)) (hx : a.eval x = .slice (some ⟨g, 0, none⟩) 1 1) (hc : w.cell? ⟨g, 0, none⟩ = some (.int .u32 z)) (hb : l.length + 1 ≤ 1000000000) (hbase : base ≤ w.heap.size)
    (h : ∀ v' w', OL w' base v' (l ++ [c]) → w.grownBy w' v.ownBlock → K (a.put o.dst v') w') : o.wp Try.prog a w K Q := by
  obtain ⟨i0, hi, hz0, hz1, hz2⟩ := info_parts info_u32
  refine wp_append_own w s x 47 ho base 52 i0 (.int .u32 0) 1 4 Try.underlying47 hi hz0 hz1 hz2 rfl (by decide) v l.length (l.map enc32) hs hown ⟨g, 0, none⟩ 1 1 [.int .u32 z] hx (by simp) (fun j y hy => ?_) (by simp [Value.oneCell']) (by unfold maxLen; omega) (by omega) hbase (fun v' w' h1 h2 _ => h v' w' ?_ h2)
  · have hj : j = 0 := by
      rcases j with _ | j
      · rfl
      · simp at hy
    subst hj
    simp at hy
    subst hy
    simpa [Addr.add] using hc
  · unfold OL
    rw [List.length_append, List.map_append, show [c].map enc32 = [Value.int .u32 z] by rw [hz]; rfl]
    exact h1
set_option maxRecDepth 100000 in
set_option maxHeartbeats 2000000 in
theorem rdList_any (w : World) (p lim : Nat) (y : List UInt8) (k : Int) (F1 F2 F3 : Value) (hr : RB w p lim y) (hp : lim ≤ p) (hpw : p < w.heap.size) (hy : y.length ≤ 9223372036854775807) :
    Calls Try.prog 47 #[.agg #[.int .u8 k, .int .i64 4, F1, F2, F3], .pointer (some ⟨p, 0, none⟩)] w fun e w' => RdE w p lim y 108 e w' := by
  have HR := Lib.hid hr
  clear hr
  obtain ⟨i0, hi, hz0, hz1, hz2⟩ := info_parts info_u32
  go_enter Try.func47, Try.ntmps47
  go_wp2_with fail
  refine (counted_any _ p lim y 60 4 (HR.out.two hpw hp _ _) hp hy (by omega) (.inr rfl)).mono ?_
  intro e w1 hT
  obtain ⟨v, err, z, u, m, rfl, hz, hzl, hm, h1, h2, h3, h4, h5⟩ : ∃ v err z u m, e = .returned (.tuple #[v, .int .i64 ((err : Nat) : Int)]) ∧ SL encB w1 lim v z ∧ z.length = 4 * m ∧ m ≤ 60 ∧ Rm.one 108 y = (⟨0, [], Rm.words z m⟩, u, err) ∧ (err = 0 → RB w1 p lim (y.drop u)) ∧ w.grownBy w1 (some p) ∧ Blk w1 (w.heap.size + 1) #[.int .u64 0, .string ⟨#[]⟩, .slice none 0 0] 49 ∧ Blk w1 w.heap.size #[.int .u8 k, .int .i64 4, F1, F2, F3] 60 := by
    have hkb : Blk ((w.alloc (.cells #[.int .u8 k, .int .i64 4, F1, F2, F3] 60)).alloc (.cells #[.int .u64 0, .string ⟨#[]⟩, .slice none 0 0] 49)) w.heap.size #[.int .u8 k, .int .i64 4, F1, F2, F3] 60 :=
      (Blk.new w _ _).of_block (((Below.refl _ _).alloc (Nat.le_refl _) _).block _ (by simp))
    rcases hT with ⟨h1, rfl, h3⟩ | ⟨h1, v, rfl, h2, h3, h4⟩
    · exact ⟨_, _, [], 0, 0, rfl, SL.nil _ _, rfl, by omega, by rw [one_list, if_pos h1]; rfl, fun h => absurd h h1, grown_trans (grown_two _ _ _ _) h3, (box_blk _ _ _ _).grown h3 (by simp; omega), hkb.grown h3 (by simp; omega)⟩
    · have hb : (cntR y 60 4).1 ≤ 60 ∧ (cntR y 60 4).1 * 4 ≤ y.length - (cntR y 60 4).2.1 := by
        unfold cntR at h1 ⊢
        by_cases g1 : (Rm.pgs y).2.2 ≠ 0
        · rw [if_pos g1] at h1; exact absurd h1 g1
        · rw [if_neg g1] at h1 ⊢
          by_cases g2 : 60 < (Rm.pgs y).1
          · rw [if_pos g2] at h1; simp at h1
          · rw [if_neg g2] at h1 ⊢
            by_cases g3 : y.length - (Rm.pgs y).2.1 < (Rm.pgs y).1 * 4
            · rw [if_pos g3] at h1; simp at h1
            · rw [if_neg g3]; simp only; omega
      refine ⟨v, 0, _, _, (cntR y 60 4).1, rfl, h2, by rw [List.length_take, List.length_drop]; omega, hb.1, ?_, fun _ => h3, grown_trans (grown_two _ _ _ _) h4, (box_blk _ _ _ _).grown h4 (by simp; omega), hkb.grown h4 (by simp; omega)⟩
      rw [one_list, if_neg (by rw [h1]; simp), Nat.mul_comm, words_take]
  have H1 := Lib.hid h1
  have H2 := Lib.hid h2
  have H3 := Lib.hid h3
  have H4 := Lib.hid h4
  have H5 := Lib.hid h5
  have HZ := Lib.hid hz
  have HZL := Lib.hid hzl
  have hs1 := h3.size
  clear hT h1 h2 h3 h4 h5 hz hzl
  go_wp2_with fail
  go_loopw [6] (fun b wr => ∃ (j : Nat) (lv : Value), j ≤ m ∧ Hid (SL encB wr lim b (z.drop (4 * j))) ∧ Hid (OL wr w1.heap.size lv (Rm.words z j)) ∧ Hid (Blk wr (w.heap.size + 1) #[.int .u64 0, .string ⟨#[]⟩, lv] 49) ∧ Hid (Blk wr w.heap.size #[.int .u8 k, .int .i64 4, F1, F2, F3] 60) ∧ Hid (w1.grownBy wr (some (w.heap.size + 1)))) (fun b _ => match b with | .slice _ n _ => n | _ => 0)
  case atStart => exact ⟨0, _, by omega, HZ.out, World.ownsRow_nil _ _ _ _, H4.out, H5.out, grown_refl _ _⟩
  case round =>
    obtain ⟨j, lv, hj, HB, HO, HQ, HK, HG⟩ := hrel
    obtain ⟨A, c0, rfl⟩ := HB.out.form
    by_cases hlt : j < m
    · have hw := words_succ z j
      obtain ⟨zj, hzj⟩ : ∃ zj, zj = z.drop (4 * j) := ⟨_, rfl⟩
      rw [← hzj] at HB hw
      have hlen : zj.length = 4 * (m - j) := by rw [hzj, List.length_drop, HZL.out]; omega
      obtain ⟨L, hL⟩ : ∃ L, L = zj.length := ⟨_, rfl⟩
      rw [← hL] at HB hlen
      rw [← hzj, ← hL]
      obtain ⟨b, off, hA, hb, _⟩ := HB.out.at (by omega)
      subst hA
      have hcap := HB.out.cap
      rw [hL.symm] at hcap
      have HF : Hid (SL encB wr lim (.slice (some ⟨b, off, none⟩) 4 c0) (zj.take 4)) := HB.out.first (by omega)
      have HREST := Lib.hid (HB.out.rest (k := 4) (by omega))
      rw [← hL] at HREST
      obtain ⟨x, hx⟩ : ∃ x, x = Rm.num (zj.take 4) := ⟨_, rfl⟩
      have hx32 : x < 4294967296 := by have := Rm.num_lt (zj.take 4); rw [← hx, List.length_take, Nat.min_eq_left (by omega)] at this; exact this
      have HC : Hid (Calls Try.prog 50 #[.slice (some ⟨b, off, none⟩) 4 c0] wr.drew fun e w' => e = .returned (.int .u64 (x : Int)) ∧ wr.drew = w') := by
        rw [hx]; exact fixed_any wr.drew lim _ _ (HF.out.drewN 1) (by rw [List.length_take]; omega)
      rw [← hx] at hw
      have HW := Lib.hid hw
      have hq2 : wr.cell? ⟨w.heap.size + 1, 2, none⟩ = some lv := HQ.out.cell 2 rfl
      have hk1 : wr.cell? ⟨w.heap.size, 1, none⟩ = some (.int .i64 4) := HK.out.cell 1 rfl
      have h4I : (4 : Int) ≤ (c0 : Int) := by omega
      have hLI : (0 : Int) < (L : Int) := by omega
      have hL4 : (4 : Int) ≤ (L : Int) := by omega
      have hqlt := HQ.out.lt
      have hklt := HK.out.lt
      have HX := Lib.hid hx
      have HL := Lib.hid hL
      have HLEN := Lib.hid hlen
      have HZJ := Lib.hid hzj
      clear hw hx hzj hL HF hlen
      go_wp2_with fail
      have hwr : IntKind.u32.wrap (x : Int) = (x : Int) := by show (x : Int) % 4294967296 = _; omega
      go_region_law
        (first
        | (go_simp
           go_at_call 50
           refine HC.out.mono ?_
           rintro e w' ⟨rfl, rfl⟩)
        | (rw [if_pos (by simp [Region.wanted])]
           refine wp_append_u32 _ _ rfl w1.heap.size lv (Rm.words z j) rfl ((World.ownsRow.alloc HO.out _) : OL (wr.drew.alloc (.cells #[.int .u32 (x : Int)] 52)) w1.heap.size lv (Rm.words z j)) (UInt32.ofNat x) wr.heap.size (x : Int) (by rw [UInt32.toNat_ofNat']; omega) rfl (cell_new1 wr.drew _ _) (by rw [Rm.words_len]; omega) (by simp; have := HG.out.size; omega) ?_
           intro v2 w2 hown hgrow
           obtain ⟨A2, n2, c2, rfl⟩ := OL.form3 hown
           have HO2 := Lib.hid hown
           have HQ2 : Blk w2 (w.heap.size + 1) #[.int .u64 0, .string ⟨#[]⟩, lv] 49 := by
             have hk : Blk (wr.drew.alloc (.cells #[.int .u32 (x : Int)] 52)) (w.heap.size + 1) #[.int .u64 0, .string ⟨#[]⟩, lv] 49 := HQ.out.of_block (((Below.refl _ _).alloc (Nat.le_refl _) _).block _ hqlt)
             exact hk.grown hgrow ((show OL (wr.drew.alloc (.cells #[.int .u32 (x : Int)] 52)) w1.heap.size lv (Rm.words z j) from World.ownsRow.alloc HO.out _).apart hk (by decide))
           have HK2 : Blk w2 w.heap.size #[.int .u8 k, .int .i64 4, F1, F2, F3] 60 := by
             have hk : Blk (wr.drew.alloc (.cells #[.int .u32 (x : Int)] 52)) w.heap.size #[.int .u8 k, .int .i64 4, F1, F2, F3] 60 := HK.out.of_block (((Below.refl _ _).alloc (Nat.le_refl _) _).block _ hklt)
             exact hk.grown hgrow ((show OL (wr.drew.alloc (.cells #[.int .u32 (x : Int)] 52)) w1.heap.size lv (Rm.words z j) from World.ownsRow.alloc HO.out _).apart hk (by decide))
           have hq22 : w2.cell? ⟨w.heap.size + 1, 2, none⟩ = some lv := HQ2.cell 2 rfl
           have hf22 : w2.frozen? ⟨w.heap.size + 1, 2, none⟩ = false := HQ2.free 2
           have hk22 : w2.cell? ⟨w.heap.size, 1, none⟩ = some (.int .i64 4) := HK2.cell 1 rfl
           have HQ2 := Lib.hid HQ2
           have HK2 := Lib.hid HK2
           have HBW : Hid (Below w1.heap.size wr w2) := ((Below.refl w1.heap.size wr).drew.alloc (by show w1.heap.size ≤ wr.heap.size; exact HG.out.size) (.cells #[.int .u32 (x : Int)] 52)).grown hgrow (by simp; have := HG.out.size; omega) (fun g hg => (World.ownsRow.lt HO.out g hg).1)
           clear hown hgrow))
      all_goals
        have HQ3 : Hid (Blk (w2.setCell ⟨w.heap.size + 1, 2, none⟩ (.slice A2 n2 c2)) (w.heap.size + 1) #[.int .u64 0, .string ⟨#[]⟩, .slice A2 n2 c2] 49) := HQ2.out.set 2 _
        have HK3 : Hid (Blk (w2.setCell ⟨w.heap.size + 1, 2, none⟩ (.slice A2 n2 c2)) w.heap.size #[.int .u8 k, .int .i64 4, F1, F2, F3] 60) := HK2.out.of_block (Below.heap_setCell _ _ _ _ (by simp))
        have HO3 : Hid (OL (w2.setCell ⟨w.heap.size + 1, 2, none⟩ (.slice A2 n2 c2)) w1.heap.size (.slice A2 n2 c2) (Rm.words z (j + 1))) := by
          rw [HW.out]
          exact World.ownsRow.kept HO2.out (grown_setCell _ _ _ _) (.inr (fun e => HO2.out.apart HQ2.out (by decide) e.symm))
        have HB3 : Hid (Below w.heap.size wr (w2.setCell ⟨w.heap.size + 1, 2, none⟩ (.slice A2 n2 c2))) := (HBW.out.mono hs1).setCell (by show w.heap.size ≤ w.heap.size + 1; omega) _
        have HG3 : Hid (w1.grownBy (w2.setCell ⟨w.heap.size + 1, 2, none⟩ (.slice A2 n2 c2)) (some (w.heap.size + 1))) :=
          grown_set ⟨HBW.out.os.trans HG.out.os, HBW.out.tape.trans HG.out.tape, HBW.out.output.trans HG.out.output, Nat.le_trans HG.out.size HBW.out.size, fun i hi hr => (HBW.out.block i hi).trans (HG.out.block i hi hr)⟩ 2 _
        have HR3 : Hid (SL encB (w2.setCell ⟨w.heap.size + 1, 2, none⟩ (.slice A2 n2 c2)) lim _ (zj.drop 4)) := HREST.out.below HB3.out (by omega)
        have hk3 : (w2.setCell ⟨w.heap.size + 1, 2, none⟩ (.slice A2 n2 c2)).cell? ⟨w.heap.size, 1, none⟩ = some (.int .i64 4) := HK3.out.cell 1 rfl
        obtain ⟨w3, hw3⟩ : ∃ w3, w3 = w2.setCell ⟨w.heap.size + 1, 2, none⟩ (.slice A2 n2 c2) := ⟨_, rfl⟩
        rw [← hw3] at HQ3 HK3 HO3 HB3 HG3 HR3 hk3 ⊢
        clear hw3 hq22 hf22 hk22 HBW HQ2 HK2
        have HD : Hid (zj.drop 4 = z.drop (4 * (j + 1))) := by rw [HZJ.out, List.drop_drop]; rfl
        rw [HD.out] at HR3
        by_cases hc4 : c0 = 4
        · rw [if_pos hc4, show c0 - 4 = 0 by omega] at HR3
          have hc4I : (c0 : Int) = 4 := by omega
          go_wp2_with fail
          go_roundw
          case rel => exact ⟨j + 1, _, by omega, HR3.out, HO3.out, HQ3.out, HK3.out, HG3.out⟩
          case measure => simp; omega
        · rw [if_neg hc4] at HR3
          have hc4I : ¬ (c0 : Int) = 4 := by omega
          go_wp2_with fail
          go_roundw
          case rel => exact ⟨j + 1, _, by omega, HR3.out, HO3.out, HQ3.out, HK3.out, HG3.out⟩
          case measure => simp; omega
    · obtain rfl : j = m := by omega
      have hnil : (z.drop (4 * j)).length = 0 := by rw [List.length_drop, HZL.out]; omega
      have hB2 := HB
      rw [hnil] at hB2
      rw [hnil]
      go_wp2_with (first
        | (refine wpList_load_row rfl 49 (.tmp 4) rfl (w.heap.size + 1) rfl 49 #[.int .u64 0, .string ⟨#[]⟩, lv] (0, 0) _ HQ.out uRc rfl (by rw [iRc]; rfl) ?_)
        | (refine wpList_store_row rfl 49 (.tmp 4) (.tmp 32) rfl (w.heap.size + 1) #[.int .u64 0, .string ⟨#[]⟩, lv] rfl rfl 49 _ HQ.out (by rw [iRc]; rfl) rfl (one3 _ _ _ rfl rfl (OL.one HO.out)) ?_))
      have HB9 := setRow_blk HQ.out #[.int .u64 0, .string ⟨#[]⟩, lv]
      refine bodyPost_ret (results_rc rfl _ _ (w.heap.size + 1) _ _ _ rfl HB9) rfl ?_
      have hg : w.grownBy wr (some p) := grown_new H3.out HG.out (by omega)
      refine RdE.of H1.out _ rfl ⟨_, rfl, ?_, by simp⟩ (fun h => ?_) (grown_setRow hg (by omega))
      · have h1 : OL (wr.setRow (w.heap.size + 1) #[.int .u64 0, .string ⟨#[]⟩, lv]) w1.heap.size lv (Rm.words z j) :=
          World.ownsRow.kept HO.out (show wr.grownBy _ (some (w.heap.size + 1)) from ⟨rfl, rfl, rfl, by simp, fun i _ hr => setRow_other _ _ _ _ (fun e => hr (by rw [e]))⟩) (.inr (fun e => HO.out.apart HQ.out (by decide) e.symm))
        exact own_lower h1 hs1
      · have h1 := H2.out h
        obtain ⟨rv, g1, g2⟩ := h1
        exact RB.setRow ⟨rv, g1.grown HG.out (by simp; omega), g2.grown (by omega) HG.out (by omega)⟩ _ (by omega) (by omega)
/-- The read of a letter. -/
theorem rd_any (w : World) (p lim : Nat) (y : List UInt8) (c : UInt8) (hc : Rm.isK c = true) (hr : RB w p lim y) (hp : lim ≤ p) (hpw : p < w.heap.size) (hy : y.length ≤ 9223372036854775807) :
    Calls Try.prog (rdF c) #[kindV c, .pointer (some ⟨p, 0, none⟩)] w fun e w' => RdE w p lim y c e w' := by
  rcases Rm.isK_cases hc with rfl | rfl | rfl | rfl | rfl | rfl | rfl
  · exact rdFixed_any w p lim y 98 98 1 _ _ _ hr hp hpw hy rfl (by omega) (by omega)
  · exact rdFixed_any w p lim y 119 119 2 _ _ _ hr hp hpw hy rfl (by omega) (by omega)
  · exact rdFixed_any w p lim y 100 100 4 _ _ _ hr hp hpw hy rfl (by omega) (by omega)
  · exact rdFixed_any w p lim y 113 113 8 _ _ _ hr hp hpw hy rfl (by omega) (by omega)
  · exact rdGroups_any w p lim y 118 8 _ _ _ hr hp hpw hy
  · exact rdText_any w p lim y 115 _ _ _ hr hp hpw hy
  · exact rdList_any w p lim y 108 _ _ _ hr hp hpw hy
end Go.Proofs.Ytelpgjaagkojeaa

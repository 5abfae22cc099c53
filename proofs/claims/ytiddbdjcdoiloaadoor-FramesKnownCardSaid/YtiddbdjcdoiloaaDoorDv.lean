/- Devices as plain data: sectors, a cache of writes, what a sector reads as, what calls leave. No condition. -/
import Derived.Test.YtiddbdjcdoiloaaDoorRows
namespace Go.Proofs.YtiddbdjcdoiloaaDoor.Dv

/-- A sector. -/
abbrev Sec := { l : List UInt8 // l.length = 128 }
def zeroS : Sec := ⟨List.replicate 128 0, by simp⟩
def filled (a b : UInt8) : Sec := ⟨a :: List.replicate 127 b, by simp⟩
/-- A write that waits. -/
abbrev Wr := Nat × Sec
structure S where
  st : List Sec
  ca : List Wr
  tk : Nat
  pw : Int
  off : Bool
def new (n : Nat) : S := ⟨List.replicate n zeroS, [], 0, -1, false⟩
/-- The last one of the writes to sector n, or d. -/
def readF (d : Sec) (n : Nat) (l : List Wr) : Sec := l.foldl (fun x p => if p.1 = n then p.2 else x) d
def reads (s : S) (n : Nat) : Sec := readF (s.st.getD n zeroS) n s.ca
def put (st : List Sec) (l : List Wr) : List Sec := l.foldl (fun st p => st.set p.1 p.2) st
def settle (s : S) (l : List Wr) : S := { s with st := put s.st l, ca := [] }
def flush (s : S) : S := settle s s.ca
/-- The index of the last write to sector n. -/
def lastI : List Wr → Nat → Option Nat
  | [], _ => none
  | p :: r, n => match lastI r n with
    | some i => some (i + 1)
    | none => if p.1 = n then some 0 else none
/-- A write that is taken. -/
def added (s : S) (n : Nat) (x : Sec) : S :=
  { (if s.ca.length = 400 then flush s else s) with ca := (if s.ca.length = 400 then flush s else s).ca ++ [(n, x)], tk := s.tk + 1, pw := if 0 < s.pw then s.pw - 1 else s.pw }
/-- Does a write find no power? -/
def spent (s : S) : Bool := decide (s.pw = 0) || decide (s.tk = 1000000000000)
def writeS (s : S) (n : Nat) (x : Sec) : S := if spent s then { s with off := true } else added s n x
structure Ok (s : S) : Prop where
  lo : 64 ≤ s.st.length
  hi : s.st.length ≤ 256
  ca : s.ca.length ≤ 400
  at_ : ∀ p ∈ s.ca, p.1 < s.st.length
  tk : s.tk ≤ 1000000000000
  pw0 : -1 ≤ s.pw
  pw1 : s.pw ≤ 1000000000000

theorem readF_snoc (d : Sec) (n : Nat) (l : List Wr) (p : Wr) : readF d n (l ++ [p]) = if p.1 = n then p.2 else readF d n l := by
  unfold readF; rw [List.foldl_append]; rfl
theorem readF_append (d : Sec) (n : Nat) (l m : List Wr) : readF d n (l ++ m) = readF (readF d n l) n m := by
  unfold readF; rw [List.foldl_append]
theorem put_snoc (st : List Sec) (l : List Wr) (p : Wr) : put st (l ++ [p]) = (put st l).set p.1 p.2 := by
  unfold put; rw [List.foldl_append]; rfl
theorem put_length (st : List Sec) (l : List Wr) : (put st l).length = st.length := by
  unfold put
  induction l generalizing st with
  | nil => rfl
  | cons p r ih => rw [List.foldl_cons, ih]; simp
theorem put_get (st : List Sec) (n : Nat) (hn : n < st.length) (l : List Wr) : (put st l).getD n zeroS = readF (st.getD n zeroS) n l := by
  unfold put readF
  induction l generalizing st with
  | nil => rfl
  | cons p r ih =>
    rw [List.foldl_cons, List.foldl_cons, ih _ (by simpa using hn)]
    congr 1
    simp only [List.getD_eq_getElem?_getD, List.getElem?_set]
    by_cases h : p.1 = n
    · rw [if_pos h, if_pos (by omega), if_pos h]; rfl
    · rw [if_neg h, if_neg h]
theorem reads_flush (s : S) (n : Nat) (hn : n < s.st.length) : reads (flush s) n = reads s n := by
  unfold reads flush settle
  simp only
  rw [put_get s.st n hn]; rfl
theorem reads_added (s : S) (n k : Nat) (x : Sec) (hk : k < s.st.length) : reads (added s n x) k = if n = k then x else reads s k := by
  unfold added reads
  simp only
  rw [readF_snoc]
  by_cases h : n = k
  · simp only [h, if_true]
  · simp only [h, if_false]
    by_cases hc : s.ca.length = 400
    · simp only [hc, if_true]
      have := reads_flush s k hk
      unfold reads at this
      exact this
    · simp only [hc, if_false]
theorem lastI_snoc (l : List Wr) (p : Wr) (n : Nat) : lastI (l ++ [p]) n = if p.1 = n then some l.length else lastI l n := by
  induction l with
  | nil => simp [lastI]
  | cons q r ih =>
    rw [List.cons_append, lastI, ih]
    by_cases h : p.1 = n
    · simp [h]
    · simp [h, lastI]
theorem lastI_lt {l : List Wr} {n i : Nat} (h : lastI l n = some i) : i < l.length := by
  induction l generalizing i with
  | nil => simp [lastI] at h
  | cons q r ih =>
    rw [lastI] at h
    cases e : lastI r n with
    | some k => rw [e] at h; simp at h; have := ih e; simp; omega
    | none =>
      rw [e] at h
      simp only at h
      split at h
      · simp at h; subst h; simp
      · simp at h
theorem readF_last (d : Sec) {l : List Wr} {n : Nat} : readF d n l = match lastI l n with | some i => (l.getD i (0, zeroS)).2 | none => d := by
  induction l generalizing d with
  | nil => rfl
  | cons q r ih =>
    rw [show readF d n (q :: r) = readF (if q.1 = n then q.2 else d) n r from rfl, ih, lastI]
    cases e : lastI r n with
    | some k => simp
    | none => simp only; split <;> rfl
theorem reads_some {s : S} {n i : Nat} (h : lastI s.ca n = some i) (hi : i < s.ca.length) : reads s n = (s.ca[i]).2 := by
  unfold reads
  rw [readF_last, h]
  simp [List.getD_eq_getElem?_getD, List.getElem?_eq_getElem hi]
theorem reads_none {s : S} {n : Nat} (h : lastI s.ca n = none) (hn : n < s.st.length) : reads s n = s.st[n] := by
  unfold reads
  rw [readF_last, h]
  simp [List.getD_eq_getElem?_getD, List.getElem?_eq_getElem hn]
theorem Ok.new {n : Nat} (h0 : 64 ≤ n) (h1 : n ≤ 256) : Ok (new n) :=
  ⟨by simpa [Dv.new] using h0, by simpa [Dv.new] using h1, by simp [Dv.new], by simp [Dv.new], by simp [Dv.new], by simp [Dv.new], by simp [Dv.new]⟩
theorem Ok.settle {s : S} (h : Ok s) (l : List Wr) : Ok (settle s l) :=
  ⟨by simpa [Dv.settle, put_length] using h.lo, by simpa [Dv.settle, put_length] using h.hi, by simp [Dv.settle], by simp [Dv.settle], h.tk, h.pw0, h.pw1⟩
theorem Ok.added {s : S} (h : Ok s) {n : Nat} (hn : n < s.st.length) (x : Sec) (hsp : spent s = false) : Ok (added s n x) := by
  have hs : s.pw ≠ 0 ∧ s.tk ≠ 1000000000000 := by unfold spent at hsp; simp at hsp; omega
  have h1 := h.tk
  have h2 := h.pw0
  have h3 := h.pw1
  have hl := h.ca
  by_cases hc : s.ca.length = 400
  · unfold Dv.added
    simp only [hc, if_true]
    refine ⟨by simpa [flush, Dv.settle, put_length] using h.lo, by simpa [flush, Dv.settle, put_length] using h.hi, by simp [flush, Dv.settle], fun p hp => ?_, by simp only; omega, ?_, ?_⟩
    · simp [flush, Dv.settle] at hp
      subst hp
      simpa [flush, Dv.settle, put_length] using hn
    · simp only; split <;> omega
    · simp only; split <;> omega
  · unfold Dv.added
    simp only [hc, if_false]
    refine ⟨h.lo, h.hi, by simp; omega, fun p hp => ?_, by simp only; omega, ?_, ?_⟩
    · simp at hp
      rcases hp with hp | rfl
      · exact h.at_ p hp
      · exact hn
    · simp only; split <;> omega
    · simp only; split <;> omega
end Go.Proofs.YtiddbdjcdoiloaaDoor.Dv

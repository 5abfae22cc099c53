/- A range over a function whose iterator keeps state in blocks of its own, and the number of draws grows. General laws of this seat's own, over any program. No condition. -/
import Derived.RangeFuncNested
import Derived.RangeFuncBound
import Derived.RangeFuncCalls
import Derived.RangeFuncLeaves
import Derived.Deep.Draws
namespace Go.Proofs.YtgfmfeaapffdfaaDoor.It
open Go.RowKit

/-- The blocks of K that lie in W lie so in W'. -/
structure Kept (K : Nat → Prop) (W W' : World) : Prop where
  size : W.heap.size ≤ W'.heap.size
  same : ∀ r, K r → r < W.heap.size → W'.heap[r]? = W.heap[r]?
section
variable {K : Nat → Prop} {A B C : World}
theorem Kept.refl (K : Nat → Prop) (A : World) : Kept K A A := ⟨Nat.le_refl _, fun _ _ _ => rfl⟩
theorem Kept.trans (h : Kept K A B) (k : Kept K B C) : Kept K A C :=
  ⟨Nat.le_trans h.size k.size, fun r hr hl => (k.same r hr (Nat.lt_of_lt_of_le hl h.size)).trans (h.same r hr hl)⟩
theorem Kept.mono {K' : Nat → Prop} (h : Kept K A B) (hk : ∀ r, K' r → K r) : Kept K' A B := ⟨h.size, fun r hr => h.same r (hk r hr)⟩
theorem Kept.alloc (h : Kept K A B) (o : Obj) : Kept K A (B.alloc o) :=
  h.trans ⟨by simp, fun r _ hl => Below.heap_alloc B o r hl⟩
theorem Kept.setCell (h : Kept K A B) {p : Addr} (hp : ¬ K p.block) (v : Value) : Kept K A (B.setCell p v) :=
  h.trans ⟨by simp [World.setCell], fun r hr _ => Below.heap_setCell B p v r (fun e => hp (e ▸ hr))⟩
theorem Kept.drew (h : Kept K A B) : Kept K A B.drew := ⟨h.size, h.same⟩
theorem Kept.drewN (h : Kept K A B) (n : Nat) : Kept K A (B.drewN n) := ⟨h.size, h.same⟩
theorem Kept.grown {row : Option Nat} (h : Kept K A B) (hg : B.grownBy C row) (hr : ∀ r, row = some r → ¬ K r) : Kept K A C :=
  h.trans ⟨hg.size, fun r hk hl => hg.block r hl (fun e => hr r e.symm hk)⟩
theorem Kept.below {n : Nat} (h : Kept K A B) (hb : Below n B C) (hk : ∀ r, K r → r < B.heap.size → r < n) : Kept K A C :=
  h.trans ⟨hb.size, fun r hr hl => hb.block r (hk r hr hl)⟩
end

/-- J abides a turn of any of the blocks of T, and whatever is new. -/
def Bears {β : Type} (T : Nat → Prop) (J : β → World → Prop) : Prop :=
  ∀ s A B row, J s A → A.grownBy B row → A.drawn ≤ B.drawn → (∀ r, row = some r → T r) → J s B
theorem Bears.alloc {β : Type} {T : Nat → Prop} {J : β → World → Prop} (h : Bears T J) {s : β} {A : World} (hs : J s A) (o : Obj) : J s (A.alloc o) :=
  h s A _ none hs (World.grownBy_alloc A o none) (Nat.le_refl _) (fun _ e => by cases e)
theorem Bears.put {β : Type} {T : Nat → Prop} {J : β → World → Prop} (h : Bears T J) {s : β} {A : World} (hs : J s A) {l : Nat} (hl : T l) (o : Obj) : J s (A.putObj l o) :=
  h s A _ (some l) hs (grownBy_putObj' A l o) (Nat.le_refl _) (fun r e => by cases e; exact hl)
theorem Bears.set {β : Type} {T : Nat → Prop} {J : β → World → Prop} (h : Bears T J) {s : β} {A : World} (hs : J s A) {p : Addr} (hl : T p.block) (v : Value) : J s (A.setCell p v) :=
  h s A _ (some p.block) hs ⟨rfl, rfl, rfl, by simp [World.setCell], fun k _ hk => Below.heap_setCell A p v k (fun e => hk (by rw [e]))⟩ (Nat.le_refl _) (fun r e => by cases e; exact hl)
theorem Bears.below {β : Type} {T : Nat → Prop} {J : β → World → Prop} (h : Bears T J) {s : β} {A B : World} (hs : J s A) (hb : Below A.heap.size A B) (hd : A.drawn ≤ B.drawn) : J s B :=
  h s A B none hs ⟨hb.os, hb.tape, hb.output, hb.size, fun k hk _ => hb.block k hk⟩ hd (fun _ e => by cases e)

/-- THE CONTRACT OF AN ITERATOR IN THE WORLD W: its first m blocks are its own; a round keeps them and the blocks of K. -/
def Gives {α : Type} (P : Program) (n g : Nat) (lb : Array Value) (encs : α → Array Value) (K : Nat → Prop) (m : Nat) (S Sp : List α → Prop) (N l : Nat) (W : World) : Prop :=
  ∀ (J Jx : List α → World → Prop), Bears (fun r => W.heap.size ≤ r ∧ r < W.heap.size + m) J → Bears (fun r => W.heap.size ≤ r ∧ r < W.heap.size + m) Jx →
    (∀ pre x V, J pre V → pre.length < N → W.heap.size + m ≤ V.heap.size → YieldAt Fence.wide (n - 1) P l (encs x) V fun e V' =>
      (e = .returned (.bool true) ∧ J (pre ++ [x]) V' ∧ Kept (fun r => K r ∨ (W.heap.size ≤ r ∧ r < W.heap.size + m)) V V') ∨ (e = .returned (.bool false) ∧ Jx (pre ++ [x]) V')) →
    J [] W →
    CallsIn Fence.wide n P g (#[.func (.yield l) #[] #[]] ++ lb) W fun e V => (∃ v, e = .returned v) ∧ ((∃ xs, S xs ∧ J xs V) ∨ (∃ pre, Sp pre ∧ Jx pre V))

/-- How a round's body may be left. -/
def left {α : Type} (K : Nat → Prop) (I : List α → World → Prop) (Ix : Code → List α → World → Prop) (xs : List α) (W : World) : Exit → Act → World → Prop
  | .normal, _, V => Kept K W V ∧ I xs V
  | .ret, _, V => Kept K W V ∧ Ix .ret xs V
  | .exit id, _, V => Kept K W V ∧ Ix (.exit id) xs V
  | .goto t, _, V => Kept K W V ∧ Ix (.goto t) xs V
  | .panic _, _, _ => False
  | .outgrown, _, _ => False

/-- The blocks that a round must keep: the iterator's, the law's own two, and those that the iterator reads. -/
def keeps (K : Nat → Prop) (B m : Nat) (r : Nat) : Prop := K r ∨ (B ≤ r ∧ r < B + 2 + m)

theorem range_wide {α : Type} {P : Program} {n : Nat} {g : Operand} {ps : Array Tmp} {assign body : Code} {Q : Exit → Act → World → Prop} {a : Act} {w : World} {gf : Nat} {lb : Array Value}
    (hg : a.eval g = .func (.func gf) #[] lb) (eg : ∀ args w, (callFunc gf args).run P w = .ok (.enter gf args) w)
    {encs : α → Array Value} (hps : ∀ x, (encs x).size = ps.size) {K : Nat → Prop} {m N : Nat} {S Sp : List α → Prop}
    (hseq : ∀ W, Below w.heap.size w W → W.heap.size = w.heap.size + 2 → Gives P (n - 1) gf lb encs K m S Sp N (w.heap.size + 1) W)
    (I : List α → World → Prop) (Ix : Code → List α → World → Prop) (hI : Bears (fun r => w.heap.size ≤ r ∧ r < w.heap.size + 2 + m) I) (hIx : ∀ c, Bears (fun r => w.heap.size ≤ r ∧ r < w.heap.size + 2 + m) (Ix c))
    (h0 : I [] w) (Ax : α → Act → World → Prop) (hAx : ∀ x a', Bears (fun r => w.heap.size ≤ r ∧ r < w.heap.size + 2 + m) (fun (_ : Unit) V => Ax x a' V))
    (hassign : ∀ (l : Nat) (pre : List α) (x : α) (W : World) (R : Act → World → Prop), w.heap.size + 2 + m ≤ W.heap.size → I pre W →
      (∀ a' V, Kept (keeps K w.heap.size m) W V → I pre V → Ax x a' V → R a' V) →
      assign.wpIn (Fence.wide.inRound l) (n - 1 - 1) P (Exit.then R (fun _ _ _ => False)) { tmps := (ps.zip (encs x)).foldl (fun t (p, v) => t.setIfInBounds p v) a.tmps, defers := [] } W)
    (hbody : ∀ (l : Nat) (pre : List α) (x : α) (a' : Act) (W : World), w.heap.size + 2 + m ≤ W.heap.size → I pre W → Ax x a' W → pre.length < N →
      body.wpIn (Fence.wide.inRound l) (n - 1 - 1) P (left (keeps K w.heap.size m) I Ix (pre ++ [x]) W) a' W)
    (hdone : ∀ (xs : List α) (W : World), S xs → I xs W → W.heap[w.heap.size]? = some (.deferred (some [])) → Q .normal { a with defers := { target := .collected w.heap.size, args := #[] } :: a.defers } W)
    (hstop : ∀ (c : Code) (pre : List α) (W : World), Sp pre → Ix c pre W → W.heap[w.heap.size]? = some (.deferred (some [])) → c.wpIn Fence.wide n P Q { a with defers := { target := .collected w.heap.size, args := #[] } :: a.defers } W) :
    (Code.rangeFunc g ps assign body).wpIn Fence.wide n P Q a w := by
  refine wpIn_rangeFunc fun fn hfn => ?_
  obtain ⟨B, hB⟩ : ∃ B, B = w.heap.size := ⟨_, rfl⟩
  rw [← hB] at hseq hI hIx hAx hassign hbody hdone hstop
  obtain ⟨L, hL⟩ : ∃ L : LoopState → Option Code → Loop, L = fun st pe => { state := st, pending := pe, fn, tmps := a.tmps, params := ps, assign, body, defers := B } := ⟨_, rfl⟩
  obtain ⟨V, hV⟩ : ∃ V, V = (w.alloc (.deferred (some []))).alloc (.loop (L .ready none)) := ⟨_, rfl⟩
  have v1 : V.heap[B + 1]? = some (.loop (L .ready none)) := by
    have := World.alloc_heap_new (w.alloc (.deferred (some []))) (.loop (L .ready none))
    rwa [World.size_alloc, ← hB, ← hV] at this
  have v0 : V.heap[B]? = some (.deferred (some [])) := by
    rw [hV, hB]; exact (Below.heap_alloc _ _ _ (by simp)).trans (World.alloc_heap_new w _)
  have vs : V.heap.size = B + 2 := by rw [hV, World.size_alloc, World.size_alloc, hB]
  have vb : Below B w V := by rw [hV, hB]; exact ((Below.refl _ w).alloc (Nat.le_refl _) _).alloc (by simp) _
  have vi : I [] V := by rw [hV]; exact hI.alloc (hI.alloc h0 _) _
  refine ⟨B + 1, [{ target := .collected B, args := #[] }], V, { target := .fn (.func gf) lb, args := #[.func (.yield (B + 1)) #[] #[]] }, V, gf, #[.func (.yield (B + 1)) #[] #[]] ++ lb, V, ?_, ?_, fun _ _ => trivial, ?_, fun h => by simp [Fence.wide] at h, ?_⟩
  · rw [hV, hL, hB]; exact run_enterLoop_outer _ _ _ _ _
  · simp only [resolve, hg]; simp [go_sem]
  · simp [invoke, go_sem, eg]
  have toB : ∀ r, V.heap.size ≤ r ∧ r < V.heap.size + m → B ≤ r ∧ r < B + 2 + m := fun r hr => by rw [vs] at hr; omega
  refine (hseq V vb vs
    (fun pre W => I pre W ∧ W.heap[B + 1]? = some (.loop (L .ready none)) ∧ W.heap[B]? = some (.deferred (some [])))
    (fun pre W => ∃ c, Ix c pre W ∧ W.heap[B + 1]? = some (.loop (L .done (some c))) ∧ W.heap[B]? = some (.deferred (some [])))
    ?_ ?_ ?_ ⟨vi, v1, v0⟩).mono ?_
  · rintro s X Y row ⟨h1, h2, h3⟩ hg' hd hr
    have two : ∀ r, r < B + 2 → r < X.heap.size → Y.heap[r]? = X.heap[r]? := fun r hr2 hl => hg'.block r hl (fun e => by have := hr r e.symm; omega)
    exact ⟨hI s X Y row h1 hg' hd (fun r e => toB r (hr r e)), (two _ (by omega) (Array.getElem?_eq_some_iff.1 h2).1).trans h2, (two _ (by omega) (Array.getElem?_eq_some_iff.1 h3).1).trans h3⟩
  · rintro s X Y row ⟨c, h1, h2, h3⟩ hg' hd hr
    have two : ∀ r, r < B + 2 → r < X.heap.size → Y.heap[r]? = X.heap[r]? := fun r hr2 hl => hg'.block r hl (fun e => by have := hr r e.symm; omega)
    exact ⟨c, hIx c s X Y row h1 hg' hd (fun r e => toB r (hr r e)), (two _ (by omega) (Array.getElem?_eq_some_iff.1 h2).1).trans h2, (two _ (by omega) (Array.getElem?_eq_some_iff.1 h3).1).trans h3⟩
  · rintro pre x W ⟨h1, h2, h3⟩ hlen hsz
    rw [vs] at hsz
    have hlt := (Array.getElem?_eq_some_iff.1 h2).1
    have hy := run_yield (P := P) (args := encs x) h2 (by rw [hL]; exact hps x)
    rw [hL] at hy
    refine ⟨fn, _, assign, body, hy, roundIn_of_wpIn trivial (hassign _ pre x W _ (by omega) h1 ?_)⟩
    intro a' U hk hi hax
    have u1 : U.heap[B + 1]? = some (.loop (L .ready none)) := (hk.same _ (.inr ⟨by omega, by omega⟩) hlt).trans h2
    have u0 : U.heap[B]? = some (.deferred (some [])) := (hk.same _ (.inr ⟨by omega, by omega⟩) (by omega)).trans h3
    have ul := (Array.getElem?_eq_some_iff.1 u1).1
    refine ⟨_, run_beginRound u1 (by rw [hL]), ?_⟩
    have hin : B ≤ B + 1 ∧ B + 1 < B + 2 + m := by omega
    obtain ⟨U', hU'⟩ : ∃ U', U' = U.putObj (B + 1) (.loop { L .ready none with state := .busy }) := ⟨_, rfl⟩
    rw [← hU']
    have us : U'.heap.size = U.heap.size := by rw [hU', World.putObj_size]
    have p1 : U'.heap[B + 1]? = some (.loop { L .ready none with state := .busy }) := by rw [hU']; exact World.putObj_heap_same ul
    have po : ∀ r, r ≠ B + 1 → U'.heap[r]? = U.heap[r]? := fun r hr => by rw [hU']; exact World.putObj_heap_other hr
    have hi' : I pre U' := by rw [hU']; exact hI.put hi hin _
    have hax' : Ax x a' U' := by rw [hU']; exact (hAx x a').put (s := ()) hax hin _
    refine wpIn_mono (hbody _ pre x a' U' (by have := hk.size; omega) hi' hax' hlen) ?_
    have fin : ∀ (jump : Option Code) (Z : World), Kept (keeps K B m) U' Z →
        (Instr.endRound (B + 1) jump).run P Z = .ok (.bool jump.isNone) (Z.putObj (B + 1) (.loop (L (if jump.isNone then .ready else .done) jump))) ∧
        (Z.putObj (B + 1) (.loop (L (if jump.isNone then .ready else .done) jump))).heap[B + 1]? = some (.loop (L (if jump.isNone then .ready else .done) jump)) ∧
        (Z.putObj (B + 1) (.loop (L (if jump.isNone then .ready else .done) jump))).heap[B]? = some (.deferred (some [])) := by
      intro jump Z hz
      have z1 := (hz.same (B + 1) (.inr ⟨by omega, by omega⟩) (by omega)).trans p1
      have z0 := (hz.same B (.inr ⟨by omega, by omega⟩) (by omega)).trans ((po B (by omega)).trans u0)
      have := run_endRound (P := P) jump z1
      rw [hL] at this ⊢
      exact ⟨this, World.putObj_heap_same (Array.getElem?_eq_some_iff.1 z1).1, (World.putObj_heap_other (by omega)).trans z0⟩
    rintro e a3 Z hp
    cases e with
    | normal =>
      obtain ⟨hz, hiz⟩ := hp
      obtain ⟨e1, e2, e3⟩ := fin none Z hz
      have key : Kept (fun r => K r ∨ (V.heap.size ≤ r ∧ r < V.heap.size + m)) W (Z.putObj (B + 1) (.loop (L .ready none))) := by
        have z1 := (hz.same (B + 1) (.inr ⟨by omega, by omega⟩) (by omega)).trans p1
        refine ⟨by rw [World.putObj_size]; have := hk.size; have := hz.size; omega, fun r hr hl => ?_⟩
        have := hk.size
        by_cases hn : r = B + 1
        · subst hn
          exact (World.putObj_heap_same (Array.getElem?_eq_some_iff.1 z1).1).trans h2.symm
        · have hkk : keeps K B m r := by
            rcases hr with hr | hr
            · exact .inl hr
            · rw [vs] at hr; exact .inr ⟨by omega, by omega⟩
          rw [World.putObj_heap_other hn, hz.same r hkk (by omega), po r hn, hk.same r hkk hl]
      exact ⟨_, _, e1, .inl ⟨rfl, ⟨hI.put hiz hin _, e2, e3⟩, key⟩⟩
    | ret =>
      obtain ⟨hz, hiz⟩ := hp
      obtain ⟨e1, e2, e3⟩ := fin (some .ret) Z hz
      exact ⟨_, _, e1, .inr ⟨rfl, .ret, (hIx _).put hiz hin _, e2, e3⟩⟩
    | exit id =>
      obtain ⟨hz, hiz⟩ := hp
      obtain ⟨e1, e2, e3⟩ := fin (some (.exit id)) Z hz
      exact ⟨_, _, e1, .inr ⟨rfl, .exit id, (hIx _).put hiz hin _, e2, e3⟩⟩
    | goto t =>
      obtain ⟨hz, hiz⟩ := hp
      obtain ⟨e1, e2, e3⟩ := fin (some (.goto t)) Z hz
      exact ⟨_, _, e1, .inr ⟨rfl, .goto t, (hIx _).put hiz hin _, e2, e3⟩⟩
    | panic ch => exact hp.elim
    | outgrown => exact hp.elim
  · have hin : B ≤ B + 1 ∧ B + 1 < B + 2 + m := by omega
    rintro e U ⟨⟨v, rfl⟩, (⟨xs, hs, hi, hl, hk⟩ | ⟨pre, hs, c, hi, hl, hk⟩)⟩
    · have := run_endLoop (P := P) hl (by rw [hL]; simp)
      rw [hL] at this
      exact ⟨none, _, this, hdone xs _ hs (hI.put hi hin _) ((World.putObj_heap_other (by omega)).trans hk)⟩
    · have := run_endLoop (P := P) hl (by rw [hL]; simp)
      rw [hL] at this
      exact ⟨some c, _, this, hstop c pre _ hs ((hIx c).put hi hin _) ((World.putObj_heap_other (by omega)).trans hk)⟩

end Go.Proofs.YtgfmfeaapffdfaaDoor.It

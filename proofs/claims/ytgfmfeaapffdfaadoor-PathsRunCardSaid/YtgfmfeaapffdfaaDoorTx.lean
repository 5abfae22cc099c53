/- Plain facts on the texts of paths: what lies between slashes. No condition. -/
import Derived.Test.YtgfmfeaapffdfaaDoorPm
import Derived.Lib.SplitLaws
import Derived.Lib.IndexMore
import Derived.Lib.Join
namespace Go.Proofs.YtgfmfeaapffdfaaDoor

def consS (c : UInt8) : List (List UInt8) → List (List UInt8) | [] => [[c]] | h :: t => (c :: h) :: t
def segs : List UInt8 → List (List UInt8)
  | [] => [[]]
  | c :: l => if c = 47 then [] :: segs l else consS c (segs l)
theorem consS_len (c : UInt8) (l : List (List UInt8)) (h : l ≠ []) : (consS c l).length = l.length := by cases l <;> simp [consS] at h ⊢
theorem segs_ne (l : List UInt8) : segs l ≠ [] := by
  cases l with
  | nil => simp [segs]
  | cons c l =>
    unfold segs
    split
    · simp
    · cases segs l <;> simp [consS]
theorem segs_len (l : List UInt8) : (segs l).length ≤ l.length + 1 := by
  induction l with
  | nil => simp [segs]
  | cons c l ih =>
    unfold segs
    split
    · simp; omega
    · rw [consS_len _ _ (segs_ne l)]; simp; omega
theorem segs_no : ∀ (a : List UInt8), (47 : UInt8) ∉ a → segs a = [a]
  | [], _ => rfl
  | c :: a, h => by
    simp only [List.mem_cons, not_or] at h
    unfold segs
    rw [if_neg (Ne.symm h.1), segs_no a h.2]; rfl
theorem segs_app : ∀ (a b : List UInt8), (47 : UInt8) ∉ a → segs (a ++ 47 :: b) = a :: segs b
  | [], b, _ => by simp [segs]
  | c :: a, b, h => by
    simp only [List.mem_cons, not_or] at h
    have ih := segs_app a b h.2
    show (if c = 47 then [] :: segs (a ++ 47 :: b) else consS c (segs (a ++ 47 :: b))) = _
    rw [if_neg (Ne.symm h.1), ih]; rfl
theorem segs_mem : ∀ (l : List UInt8), ∀ x ∈ segs l, (47 : UInt8) ∉ x
  | [] => by simp [segs]
  | c :: l => by
    intro x hx
    have ih := segs_mem l
    unfold segs at hx
    split at hx
    · rcases List.mem_cons.1 hx with rfl | hx
      · simp
      · exact ih x hx
    · rename_i hc
      cases hs : segs l with
      | nil => exact (segs_ne l hs).elim
      | cons h t =>
        rw [hs] at hx ih
        rcases List.mem_cons.1 hx with rfl | hx
        · simp only [List.mem_cons, not_or]; exact ⟨Ne.symm hc, ih h (by simp)⟩
        · exact ih x (by simp [hx])
/-- The bytes of a path's text but for the first slash. -/
def jn : List (List UInt8) → List UInt8
  | [] => []
  | [x] => x
  | x :: y :: r => x ++ 47 :: jn (y :: r)
theorem jn_cons (x : List UInt8) (r : List (List UInt8)) (h : r ≠ []) : jn (x :: r) = x ++ 47 :: jn r := by cases r <;> simp [jn] at h ⊢
theorem jn_segs (l : List UInt8) : jn (segs l) = l := by
  induction l with
  | nil => rfl
  | cons c l ih =>
    unfold segs
    split
    · rename_i hc
      rw [jn_cons _ _ (segs_ne l), ih, hc]; rfl
    · cases hs : segs l with
      | nil => exact (segs_ne l hs).elim
      | cons h t =>
        rw [hs] at ih
        cases t with
        | nil => simp only [consS, jn] at ih ⊢; rw [ih]
        | cons y r => simp only [consS, jn, List.cons_append] at ih ⊢; rw [ih]
theorem segs_jn : ∀ (p : List (List UInt8)), p ≠ [] → (∀ x ∈ p, (47 : UInt8) ∉ x) → segs (jn p) = p
  | [], h, _ => (h rfl).elim
  | [x], _, h => by show segs x = [x]; exact segs_no x (h x (by simp))
  | x :: y :: r, _, h => by
    show segs (x ++ 47 :: jn (y :: r)) = _
    rw [segs_app x _ (h x (by simp)), segs_jn (y :: r) (by simp) (fun z hz => h z (by simp [hz]))]
theorem jn_joins : ∀ (p : List (List UInt8)), jn p = Lib.join p [47]
  | [] => rfl
  | [x] => (Lib.join_one x _).symm
  | x :: y :: r => by
    rw [Lib.join_cons]
    have := jn_joins (y :: r)
    rw [Lib.join_cons] at this
    show x ++ 47 :: jn (y :: r) = _
    rw [this]; simp [Lib.joinTail]
/-- A string of bytes. -/
def mk (l : List UInt8) : ByteArray := ⟨l.toArray⟩
theorem bs_mk' (l : List UInt8) : bs (mk l) = l := rfl
theorem mk_bs' (s : ByteArray) : mk (bs s) = s := mk_bs s
theorem mk_map_bs (p : Path) : (p.map bs).map mk = p := by
  induction p with
  | nil => rfl
  | cons a r ih => rw [List.map_cons, List.map_cons, ih]; rfl
theorem bs_map_mk (p : List (List UInt8)) : (p.map mk).map bs = p := by
  induction p with
  | nil => rfl
  | cons a r ih => rw [List.map_cons, List.map_cons, ih]; rfl
def textL (p : Path) : List UInt8 := 47 :: jn (p.map bs)
def textOf (p : Path) : ByteArray := mk (textL p)
def segsP (s : ByteArray) : Path := (segs (bs s).tail).map mk
def parseR (s : ByteArray) : Path × Nat :=
  if s.size = 0 then ([], 6) else if (bs s).head? ≠ some 47 then ([], 6) else if bs s = [47] then ([], 0) else if checkE (segsP s) = 0 then (segsP s, 0) else ([], checkE (segsP s))
def printR (p : Path) : ByteArray × Nat := if checkE p = 0 then (textOf p, 0) else (⟨#[]⟩, checkE p)
theorem name_no_slash {s : ByteArray} (h : nameE s = 0) : (47 : UInt8) ∉ bs s := fun hm => by
  have := List.all_eq_true.1 (nameE_ok h).2.2.1 47 hm
  revert this; decide
theorem parse_print (p : Path) (h : checkE p = 0) : parseR (textOf p) = (p, 0) := by
  have hn := (checkE_zero p).1 h
  have hb : bs (textOf p) = 47 :: jn (p.map bs) := rfl
  unfold parseR
  have hs : (textOf p).size ≠ 0 := by rw [← bs_len, hb]; simp
  rw [if_neg hs, hb]
  simp only [List.head?_cons, ne_eq, not_true, if_false, List.cons.injEq, true_and]
  cases p with
  | nil => rfl
  | cons a r =>
    have hj : segs (jn ((a :: r).map bs)) = (a :: r).map bs := segs_jn _ (by simp) (fun x hx => by
      obtain ⟨y, hy, rfl⟩ := List.mem_map.1 hx
      exact name_no_slash (hn.2 y hy))
    have hne : ¬ jn ((a :: r).map bs) = [] := fun e => by
      have hl := (nameE_ok (hn.2 a (by simp))).1
      rw [e] at hj
      have h1 := congrArg List.head? hj
      simp [segs] at h1
      have := bs_len a
      rw [h1] at this
      simp at this; omega
    rw [if_neg hne]
    have hsg : segsP (textOf (a :: r)) = a :: r := by
      unfold segsP; rw [hb, List.tail_cons, hj, mk_map_bs]
    rw [hsg, if_pos h]
theorem print_parse (s : ByteArray) (h : (parseR s).2 = 0) : checkE (parseR s).1 = 0 ∧ textOf (parseR s).1 = s := by
  unfold parseR at h ⊢
  by_cases h0 : s.size = 0
  · rw [if_pos h0] at h; cases h
  rw [if_neg h0] at h ⊢
  by_cases h1 : (bs s).head? ≠ some 47
  · rw [if_pos h1] at h; cases h
  rw [if_neg h1] at h ⊢
  have h1' : (bs s).head? = some 47 := by simpa using h1
  by_cases h2 : bs s = [47]
  · rw [if_pos h2]; exact ⟨by simp [checkE, pathE], by apply bs_inj; rw [h2]; rfl⟩
  rw [if_neg h2] at h ⊢
  by_cases h3 : checkE (segsP s) = 0
  · rw [if_pos h3]
    refine ⟨h3, ?_⟩
    apply bs_inj
    show 47 :: jn ((segsP s).map bs) = bs s
    unfold segsP
    rw [bs_map_mk, jn_segs]
    cases hb : bs s with
    | nil => rw [hb] at h1'; cases h1'
    | cons c l => rw [hb] at h1'; simp at h1'; rw [h1']; rfl
  · rw [if_neg h3] at h; exact (h3 h).elim

/-! ### what strings.SplitN returns -/
def sl : ByteArray := ⟨#[47]⟩
theorem drop_first (l : List UInt8) (i : Nat) (hi : l[i]? = some 47) : l = l.take i ++ 47 :: l.drop (i + 1) := by
  obtain ⟨h, e⟩ := List.getElem?_eq_some_iff.1 hi
  conv => lhs; rw [← List.take_append_drop i l]
  rw [List.drop_eq_getElem_cons h, e]
theorem take_no (l : List UInt8) (i : Nat) (h : ∀ k, k < i → l[k]? ≠ some 47) : (47 : UInt8) ∉ l.take i := fun hm => by
  obtain ⟨k, hk, e⟩ := List.mem_iff_getElem.1 hm
  have hk2 := hk
  rw [List.length_take] at hk2
  rw [List.getElem_take] at e
  exact h k (by omega) (by rw [List.getElem?_eq_getElem (by omega), e])
theorem splitK_segs : ∀ (k : Nat) (l : List UInt8), ((segs l).length ≤ k + 1 → Lib.splitK [47] 0 k l = segs l) ∧ (k + 1 < (segs l).length → (Lib.splitK [47] 0 k l).length = k + 1)
  | 0, l => by
    refine ⟨fun h => ?_, fun _ => rfl⟩
    show [l] = _
    have hn : (47 : UInt8) ∉ l := fun hm => by
      obtain ⟨a, b, e, ha⟩ := List.append_of_mem hm |> fun ⟨a, b, e⟩ => (⟨_, _, e, trivial⟩ : ∃ a b, l = a ++ 47 :: b ∧ True)
      have : ∀ a : List UInt8, 2 ≤ (segs (a ++ 47 :: b)).length := by
        intro a
        induction a with
        | nil => simp [segs]; have := segs_ne b; cases hs : segs b with
          | nil => exact (this hs).elim
          | cons => simp
        | cons c a ih =>
          show 2 ≤ (if c = 47 then [] :: segs (a ++ 47 :: b) else consS c (segs (a ++ 47 :: b))).length
          split
          · simp; omega
          · rw [consS_len _ _ (segs_ne _)]; exact ih
      rw [e] at h
      have := this a
      omega
    exact (segs_no l hn).symm
  | k + 1, l => by
    have hi := Lib.index_one l 47
    cases hx : (Lib.indexByte l 47 == -1) with
    | true =>
      have hno := Lib.indexByte_none (beq_iff_eq.1 hx)
      have hn : (47 : UInt8) ∉ l := fun hm => by
        obtain ⟨j, hj, e⟩ := List.mem_iff_getElem.1 hm
        exact hno j (by rw [List.getElem?_eq_getElem hj, e])
      have e : Lib.splitK [47] 0 (k + 1) l = [l] := by unfold Lib.splitK; rw [hi, if_pos hx]
      rw [e, segs_no l hn]
      exact ⟨fun _ => rfl, fun h => by simp at h⟩
    | false =>
      have hge := Lib.indexByte_ge l 47
      have hne : Lib.indexByte l 47 ≠ -1 := fun e => by rw [e] at hx; simp at hx
      obtain ⟨i, hio⟩ : ∃ i : Nat, Lib.indexByte l 47 = i := ⟨(Lib.indexByte l 47).toNat, by omega⟩
      obtain ⟨h1, h2⟩ := Lib.indexByte_some hio
      have e : Lib.splitK [47] 0 (k + 1) l = l.take i :: Lib.splitK [47] 0 k (l.drop (i + 1)) := by
        rw [Lib.splitK, hi, hx, hio]; simp
      have es : segs l = l.take i :: segs (l.drop (i + 1)) := by
        conv => lhs; rw [drop_first l i h1]
        exact segs_app _ _ (take_no l i h2)
      have ih := splitK_segs k (l.drop (i + 1))
      rw [e, es]
      refine ⟨fun h => ?_, fun h => ?_⟩
      · rw [ih.1 (by simpa using h)]
      · simp only [List.length_cons] at h ⊢; rw [ih.2 (by omega)]
/-- The strings that SplitN makes, at most nine: those between slashes, or nine. -/
theorem split_nine (s : ByteArray) (n : Nat) (hn : n = min 9 (s.size + 1) - 1) : checkE (Lib.splitB sl 0 n s) = checkE ((segs (bs s)).map mk) ∧ (checkE ((segs (bs s)).map mk) = 0 → Lib.splitB sl 0 n s = (segs (bs s)).map mk) := by
  have hd := Lib.splitB_data sl 0 n s
  have hd2 : (Lib.splitB sl 0 n s).map bs = Lib.splitK [47] 0 n (bs s) := hd
  have hm : Lib.splitB sl 0 n s = (Lib.splitK [47] 0 n (bs s)).map mk := by rw [← hd2, mk_map_bs]
  have hk := splitK_segs n (bs s)
  have hl := segs_len (bs s)
  rw [bs_len] at hl
  by_cases hc : (segs (bs s)).length ≤ n + 1
  · rw [hm, hk.1 hc]; exact ⟨rfl, fun _ => rfl⟩
  · have h9 : n = 8 := by omega
    have hlen := hk.2 (by omega)
    have e1 : checkE (Lib.splitB sl 0 n s) = 3 := by unfold checkE; rw [if_pos]; rw [hm, List.length_map, hlen]; omega
    have e2 : checkE ((segs (bs s)).map mk) = 3 := by unfold checkE; rw [if_pos]; rw [List.length_map]; omega
    exact ⟨by rw [e1, e2], fun e => by rw [e2] at e; cases e⟩

/-! ### the walk of the reference's Parse -/
theorem segs_at (l : List UInt8) (f i : Nat) (hf : f ≤ i) (hi : l[i]? = some 47) (hno : (47 : UInt8) ∉ (l.drop f).take (i - f)) : segs (l.drop f) = (l.drop f).take (i - f) :: segs (l.drop (i + 1)) := by
  have h1 : (l.drop f)[i - f]? = some 47 := by rw [List.getElem?_drop, show f + (i - f) = i by omega]; exact hi
  conv => lhs; rw [drop_first (l.drop f) (i - f) h1]
  rw [segs_app _ _ hno, List.drop_drop, show f + (i - f + 1) = i + 1 by omega]
theorem no_more (l : List UInt8) (f i : Nat) (hf : f ≤ i) (hi : l[i]? ≠ some 47) (hno : (47 : UInt8) ∉ (l.drop f).take (i - f)) : (47 : UInt8) ∉ (l.drop f).take (i + 1 - f) := fun hm => by
  obtain ⟨k, hk, e⟩ := List.mem_iff_getElem.1 hm
  have hk2 := hk
  rw [List.length_take, List.length_drop] at hk2
  have e2 : l[f + k]? = some 47 := by
    have := List.getElem?_eq_getElem hk
    rw [e, List.getElem?_take, if_pos (by omega), List.getElem?_drop] at this
    exact this
  by_cases h : k = i - f
  · apply hi
    rw [← e2, h, show f + (i - f) = i by omega]
  · exact hno (List.mem_of_getElem? (i := k) (by rw [List.getElem?_take, if_pos (by omega), List.getElem?_drop]; exact e2))
end Go.Proofs.YtgfmfeaapffdfaaDoor

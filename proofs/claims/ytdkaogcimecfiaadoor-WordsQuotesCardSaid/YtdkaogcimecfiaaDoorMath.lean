/- Plain mathematics of quoted forms and fields: no Go in sight. No condition. -/
namespace Go.Proofs.YtdkaogcimecfiaaDoor.M

/-- The bytes that stand for themselves. -/
def plainN (c : Nat) : Bool := decide (32 ≤ c ∧ c ≤ 126 ∧ c ≠ 34 ∧ c ≠ 92)
/-- The letter that escapes a byte. -/
def letterN (c : Nat) : Option Nat := if c = 34 then some 34 else if c = 92 then some 92 else if c = 10 then some 110 else if c = 13 then some 114 else if c = 9 then some 116 else none
/-- The byte that a letter escapes. -/
def charN (c : Nat) : Option Nat := if c = 34 then some 34 else if c = 92 then some 92 else if c = 110 then some 10 else if c = 114 then some 13 else if c = 116 then some 9 else none
/-- A digit of base 16, and back. -/
def hexN (n : Nat) : Nat := if n < 10 then 48 + n else 87 + n
def unhexN (c : Nat) : Option Nat := if 48 ≤ c ∧ c ≤ 57 then some (c - 48) else if 97 ≤ c ∧ c ≤ 102 then some (c - 87) else none
def u (n : Nat) : UInt8 := UInt8.ofNat n
/-- What stands for a byte in a quoted form. -/
def esc (c : UInt8) : List UInt8 :=
  if plainN c.toNat then [c] else match letterN c.toNat with
  | some l => [92, u l]
  | none => [92, 120, u (hexN (c.toNat / 16)), u (hexN (c.toNat % 16))]
def hexChar (h l : Nat) : Option Nat := match unhexN h, unhexN l with
  | some a, some b => if (letterN (a * 16 + b)).isSome || plainN (a * 16 + b) then none else some (a * 16 + b)
  | _, _ => none
/-- The byte that the beginning stands for, and how many bytes do so. -/
def rc : List UInt8 → Option (UInt8 × Nat)
  | [] => none
  | c :: r => if plainN c.toNat then some (c, 1) else if c ≠ 92 then none else match r with
    | [] => none
    | d :: r2 => match charN d.toNat with
      | some x => some (u x, 2)
      | none => if d ≠ 120 then none else match r2 with
        | h :: l :: _ => (hexChar h.toNat l.toNat).map fun x => (u x, 4)
        | _ => none

theorem rc_cons (c : UInt8) (r : List UInt8) : rc (c :: r) = if plainN c.toNat then some (c, 1) else if c ≠ 92 then none else match r with
    | [] => none
    | d :: r2 => match charN d.toNat with
      | some x => some (u x, 2)
      | none => if d ≠ 120 then none else match r2 with
        | h :: l :: _ => (hexChar h.toNat l.toNat).map fun x => (u x, 4)
        | _ => none := rfl
/-- What holds of all 256 bytes, reckoned. -/
theorem u8_all (p : UInt8 → Bool) (h : (List.range 256).all (fun n => p (UInt8.ofNat n)) = true) (c : UInt8) : p c = true := by
  rw [List.all_eq_true] at h
  have := h c.toNat (List.mem_range.2 (by have := c.toNat_lt; omega))
  simpa using this
theorem rc_esc (c : UInt8) : rc (esc c) = some (c, (esc c).length) := by
  have := u8_all (fun c => decide (rc (esc c) = some (c, (esc c).length))) (by decide +kernel) c
  simpa using this
theorem rc_more (l t : List UInt8) (x : UInt8 × Nat) (h : rc l = some x) : rc (l ++ t) = some x := by
  match l with
  | [] => simp [rc] at h
  | [c] =>
    simp only [rc, List.cons_append, List.nil_append] at h ⊢
    split at h
    · rename_i hp; rw [if_pos hp]; exact h
    · split at h <;> simp at h
  | [c, d] =>
    simp only [rc, List.cons_append, List.nil_append] at h ⊢
    split at h
    · rename_i hp; rw [if_pos hp]; exact h
    · rename_i hp; rw [if_neg hp]
      split at h
      · simp at h
      · rename_i h9; rw [if_neg h9]
        cases hc : charN d.toNat with
        | some y => rw [hc] at h; exact h
        | none => rw [hc] at h; simp only at h; split at h <;> simp at h
  | [c, d, e] =>
    simp only [rc, List.cons_append, List.nil_append] at h ⊢
    split at h
    · rename_i hp; rw [if_pos hp]; exact h
    · rename_i hp; rw [if_neg hp]
      split at h
      · simp at h
      · rename_i h9; rw [if_neg h9]
        cases hc : charN d.toNat with
        | some y => rw [hc] at h; exact h
        | none => rw [hc] at h; simp only at h; split at h <;> simp at h
  | c :: d :: e :: f :: r => simpa [rc] using h

theorem letter_char (d : UInt8) (x : Nat) (hx : charN d.toNat = some x) : esc (u x) = [92, d] := by
  have := u8_all (fun d => match charN d.toNat with | some x => decide (esc (u x) = [92, d]) | none => true) (by decide +kernel) d
  simp only [hx] at this
  simpa using this
theorem hex_inv (d : UInt8) (x : Nat) (hx : unhexN d.toNat = some x) : x < 16 ∧ u (hexN x) = d := by
  have := u8_all (fun d => match unhexN d.toNat with | some x => decide (x < 16 ∧ u (hexN x) = d) | none => true) (by decide +kernel) d
  simp only [hx] at this
  simpa using this
theorem hexChar_esc (h l : UInt8) (x : Nat) (hx : hexChar h.toNat l.toNat = some x) : esc (u x) = [92, 120, h, l] := by
  unfold hexChar at hx
  cases ha : unhexN h.toNat with
  | none => rw [ha] at hx; simp at hx
  | some a =>
    cases hb : unhexN l.toNat with
    | none => rw [ha, hb] at hx; simp at hx
    | some b =>
      rw [ha, hb] at hx
      simp only at hx
      split at hx
      · simp at hx
      · rename_i hn
        simp only [Bool.or_eq_true, not_or, Bool.not_eq_true, Option.isSome_eq_false_iff, Option.isNone_iff_eq_none] at hn
        obtain ⟨a16, ea⟩ := hex_inv h a ha
        obtain ⟨b16, eb⟩ := hex_inv l b hb
        simp only [Option.some.injEq] at hx
        subst hx
        have hu : (u (a * 16 + b)).toNat = a * 16 + b := by unfold u; rw [UInt8.toNat_ofNat']; omega
        unfold esc
        rw [hu, hn.2, hn.1]
        have e1 : (a * 16 + b) / 16 = a := by omega
        have e2 : (a * 16 + b) % 16 = b := by omega
        simp only [Bool.false_eq_true, if_false, e1, e2, ea, eb]
/-- What is read at the beginning is the form of a byte. -/
theorem rc_pre (l : List UInt8) (c : UInt8) (n : Nat) (h : rc l = some (c, n)) : n = (esc c).length ∧ ∃ t, l = esc c ++ t := by
  match l with
  | [] => simp [rc] at h
  | a :: r =>
    simp only [rc] at h
    split at h
    · rename_i hp
      simp only [Option.some.injEq, Prod.mk.injEq] at h
      obtain ⟨rfl, rfl⟩ := h
      have : esc a = [a] := by unfold esc; rw [if_pos hp]
      rw [this]; exact ⟨rfl, r, rfl⟩
    · split at h
      · simp at h
      · rename_i h92
        simp only [ne_eq, Decidable.not_not] at h92
        subst h92
        match r with
        | [] => simp at h
        | d :: r2 =>
          simp only at h
          cases hc : charN d.toNat with
          | some y =>
            rw [hc] at h
            simp only [Option.some.injEq, Prod.mk.injEq] at h
            obtain ⟨rfl, rfl⟩ := h
            rw [letter_char d y hc]; exact ⟨rfl, r2, rfl⟩
          | none =>
            rw [hc] at h
            simp only at h
            split at h
            · simp at h
            · rename_i h120
              simp only [ne_eq, Decidable.not_not] at h120
              subst h120
              match r2 with
              | [] => simp at h
              | [_] => simp at h
              | x :: y :: t =>
                simp only at h
                cases hx : hexChar x.toNat y.toNat with
                | none => rw [hx] at h; simp at h
                | some z =>
                  rw [hx] at h
                  simp only [Option.map_some, Option.some.injEq, Prod.mk.injEq] at h
                  obtain ⟨rfl, rfl⟩ := h
                  rw [hexChar_esc x y z hx]; exact ⟨rfl, t, rfl⟩
theorem rc_app (c : UInt8) (t : List UInt8) : rc (esc c ++ t) = some (c, (esc c).length) := rc_more _ t _ (rc_esc c)
theorem esc_pos (c : UInt8) : 1 ≤ (esc c).length := by
  have := u8_all (fun c => decide (1 ≤ (esc c).length)) (by decide +kernel) c
  simpa using this
theorem esc_le (c : UInt8) : (esc c).length ≤ 4 := by
  have := u8_all (fun c => decide ((esc c).length ≤ 4)) (by decide +kernel) c
  simpa using this
theorem esc_head (c : UInt8) : (esc c).head? ≠ some 34 := by
  have := u8_all (fun c => decide ((esc c).head? ≠ some 34)) (by decide +kernel) c
  simpa using this

/-- What stands between the quotes of the quoted form of a string. -/
def escs (y : List UInt8) : List UInt8 := y.flatMap esc
theorem escs_nil : escs [] = [] := rfl
theorem escs_cons (c : UInt8) (y : List UInt8) : escs (c :: y) = esc c ++ escs y := by simp [escs]
theorem escs_app (x y : List UInt8) : escs (x ++ y) = escs x ++ escs y := by simp [escs]
theorem escs_snoc (y : List UInt8) (c : UInt8) : escs (y ++ [c]) = escs y ++ esc c := by simp [escs]
theorem escs_len (y : List UInt8) : y.length ≤ (escs y).length := by
  induction y with
  | nil => simp
  | cons c y ih => rw [escs_cons]; have := esc_pos c; simp; omega
/-- What is read from behind a quote on: the string, and how many bytes, the quote behind it too. -/
def rqF : Nat → List UInt8 → Option (List UInt8 × Nat)
  | 0, _ => none
  | _ + 1, [] => none
  | f + 1, c :: r => if c = 34 then some ([], 1) else match rc (c :: r) with
    | none => none
    | some (x, n) => match rqF f ((c :: r).drop n) with
      | none => none
      | some (y, m) => some (x :: y, n + m)
def rq (l : List UInt8) : Option (List UInt8 × Nat) := rqF (l.length + 1) l
theorem rqF_nil (f : Nat) : rqF f [] = none := by cases f <;> rfl
theorem rqF_more (f : Nat) : ∀ (l : List UInt8), l.length < f → ∀ g, f ≤ g → rqF g l = rqF f l := by
  induction f with
  | zero => intro l h; omega
  | succ f ih =>
    intro l h g hg
    obtain ⟨g, rfl⟩ : ∃ g', g = g' + 1 := ⟨g - 1, by omega⟩
    cases l with
    | nil => rfl
    | cons c r =>
      simp only [rqF]
      split
      · rfl
      · cases hc : rc (c :: r) with
        | none => rfl
        | some xn =>
          obtain ⟨x, n⟩ := xn
          have hn := (rc_pre _ _ _ hc).1
          have hp := esc_pos x
          simp only
          rw [ih ((c :: r).drop n) (by simp at h ⊢; omega) g (by omega)]
theorem rq_fuel (l : List UInt8) (f : Nat) (h : l.length < f) : rqF f l = rq l := rqF_more (l.length + 1) l (by omega) f (by omega)
theorem rq_nil : rq [] = none := rfl
theorem rq_quote (t : List UInt8) : rq (34 :: t) = some ([], 1) := rfl
theorem rq_bad (c : UInt8) (t : List UInt8) (h : c ≠ 34) (hc : rc (c :: t) = none) : rq (c :: t) = none := by
  unfold rq; simp only [rqF]; rw [if_neg h, hc]
theorem rq_one (x : UInt8) (r : List UInt8) : rq (esc x ++ r) = (rq r).map fun p => (x :: p.1, (esc x).length + p.2) := by
  have hp := esc_pos x
  have hh := esc_head x
  cases he : esc x with
  | nil => rw [he] at hp; simp at hp
  | cons c t =>
    rw [he] at hh hp
    have hc : c ≠ 34 := by simpa using hh
    have hr : rc (c :: (t ++ r)) = some (x, (c :: t).length) := by have := rc_app x r; rw [he] at this; simpa using this
    have hd : (c :: (t ++ r)).drop (c :: t).length = r := by simp
    unfold rq
    simp only [List.cons_append, rqF]
    rw [if_neg hc, hr]
    simp only
    rw [hd, rq_fuel r _ (by simp; omega)]
    unfold rq
    cases rqF (r.length + 1) r <;> rfl
theorem rq_esc (y r : List UInt8) : rq (escs y ++ r) = (rq r).map fun p => (y ++ p.1, (escs y).length + p.2) := by
  induction y with
  | nil => simp [escs_nil]
  | cons c y ih =>
    rw [escs_cons, List.append_assoc, rq_one, ih]
    cases rq r <;> simp; omega
theorem rq_some (l : List UInt8) : ∀ y m, rq l = some (y, m) → ∃ t, l = escs y ++ 34 :: t ∧ m = (escs y).length + 1 := by
  suffices H : ∀ f (l : List UInt8) y m, rqF f l = some (y, m) → ∃ t, l = escs y ++ 34 :: t ∧ m = (escs y).length + 1 from fun y m h => H _ _ y m h
  intro f
  induction f with
  | zero => intro l y m h; simp [rqF] at h
  | succ f ih =>
    intro l y m h
    cases l with
    | nil => simp [rqF] at h
    | cons c r =>
      simp only [rqF] at h
      split at h
      · rename_i hc
        subst hc
        simp only [Option.some.injEq, Prod.mk.injEq] at h
        obtain ⟨rfl, rfl⟩ := h
        exact ⟨r, rfl, rfl⟩
      · cases hc : rc (c :: r) with
        | none => rw [hc] at h; simp at h
        | some xn =>
          obtain ⟨x, n⟩ := xn
          rw [hc] at h
          simp only at h
          obtain ⟨hn, t, ht⟩ := rc_pre _ _ _ hc
          cases hq : rqF f ((c :: r).drop n) with
          | none => rw [hq] at h; simp at h
          | some ym =>
            obtain ⟨y', m'⟩ := ym
            rw [hq] at h
            simp only [Option.some.injEq, Prod.mk.injEq] at h
            obtain ⟨rfl, rfl⟩ := h
            obtain ⟨t', h1, h2⟩ := ih _ _ _ hq
            rw [ht, hn, List.drop_left] at h1
            refine ⟨t', ?_, ?_⟩
            · rw [ht, h1, escs_cons, List.append_assoc]
            · rw [escs_cons, List.length_append]; omega
end Go.Proofs.YtdkaogcimecfiaaDoor.M

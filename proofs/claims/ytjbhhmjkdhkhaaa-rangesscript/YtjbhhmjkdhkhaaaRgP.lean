/-
  Numbers that came, as lists of ranges that fall: what is there, put in, forgotten. (Nothing of memory.)
-/
namespace Go.Proofs.Ytjbhhmjkdhkhaaa
set_option linter.unusedVariables false

abbrev RL := List (Nat × Nat)
def topV : Nat := 4611686018427387903
/-- the ranges fall from below B on, and none touches another one -/
def Fall : Nat → RL → Prop
  | _, [] => True
  | B, x :: r => x.1 ≤ x.2 ∧ x.2 + 1 < B ∧ Fall x.1 r
/-- m is in one of them -/
def Mem (m : Nat) (l : RL) : Prop := ∃ x ∈ l, x.1 ≤ m ∧ m ≤ x.2
theorem mem_nil {m : Nat} : ¬ Mem m [] := fun ⟨_, h, _⟩ => by cases h
theorem mem_cons {m : Nat} {x : Nat × Nat} {r : RL} : Mem m (x :: r) ↔ (x.1 ≤ m ∧ m ≤ x.2) ∨ Mem m r := by
  constructor
  · rintro ⟨y, hy, h⟩
    rcases List.mem_cons.1 hy with rfl | hy
    · exact .inl h
    · exact .inr ⟨y, hy, h⟩
  · rintro (h | ⟨y, hy, h⟩)
    · exact ⟨x, List.mem_cons_self .., h⟩
    · exact ⟨y, List.mem_cons_of_mem _ hy, h⟩
theorem mem_append {m : Nat} {l r : RL} : Mem m (l ++ r) ↔ Mem m l ∨ Mem m r := by
  induction l with
  | nil => simp [mem_nil]
  | cons x t ih => rw [List.cons_append, mem_cons, mem_cons, ih, or_assoc]
theorem Fall.up {B B' : Nat} {l : RL} (h : Fall B l) (hB : B ≤ B') : Fall B' l := by
  cases l with
  | nil => trivial
  | cons x r => exact ⟨h.1, by have := h.2.1; omega, h.2.2⟩
theorem Fall.lt {B m : Nat} {l : RL} (h : Fall B l) (hm : Mem m l) : m + 1 < B := by
  induction l generalizing B with
  | nil => exact absurd hm mem_nil
  | cons x r ih =>
    rcases mem_cons.1 hm with h1 | h1
    · have := h.2.1; omega
    · have := ih h.2.2 h1; have := h.1; have := h.2.1; omega
theorem Fall.at_ {B : Nat} {l : RL} (h : Fall B l) {x : Nat × Nat} (hx : x ∈ l) : x.1 ≤ x.2 ∧ x.2 + 1 < B := by
  induction l generalizing B with
  | nil => cases hx
  | cons y r ih =>
    rcases List.mem_cons.1 hx with rfl | h1
    · exact ⟨h.1, h.2.1⟩
    · have := ih h.2.2 h1; have := h.1; have := h.2.1; omega
theorem mem_of {l : RL} {x : Nat × Nat} {B : Nat} (h : Fall B l) (hx : x ∈ l) : Mem x.2 l ∧ Mem x.1 l := by
  have := (h.at_ hx).1
  exact ⟨⟨x, hx, by omega, by omega⟩, ⟨x, hx, by omega, by omega⟩⟩
/-- two that fall and have the same numbers are the same -/
theorem fall_ext : ∀ {l r : RL} {B B' : Nat}, Fall B l → Fall B' r → (∀ m, Mem m l ↔ Mem m r) → l = r
  | [], [], _, _, _, _, _ => rfl
  | [], y :: r, _, _, _, hr, h => absurd ((h y.1).2 (mem_cons.2 (.inl ⟨Nat.le_refl _, hr.1⟩))) mem_nil
  | x :: l, [], _, _, hl, _, h => absurd ((h x.1).1 (mem_cons.2 (.inl ⟨Nat.le_refl _, hl.1⟩))) mem_nil
  | x :: l, y :: r, _, _, hl, hr, h => by
    have l1 : ∀ m, Mem m l → m + 1 < x.1 := fun m hm => hl.2.2.lt hm
    have r1 : ∀ m, Mem m r → m + 1 < y.1 := fun m hm => hr.2.2.lt hm
    have a1 := hl.1
    have a2 := hr.1
    have e2 : x.2 = y.2 := by
      have h1 := (h x.2).1 (mem_cons.2 (.inl ⟨a1, Nat.le_refl _⟩))
      have h2 := (h y.2).2 (mem_cons.2 (.inl ⟨a2, Nat.le_refl _⟩))
      rcases mem_cons.1 h1 with h1 | h1 <;> rcases mem_cons.1 h2 with h2 | h2 <;>
        first | omega | (have := r1 _ h1; have := l1 _ h2; omega) | (have := r1 _ h1; omega) | (have := l1 _ h2; omega)
    have e1 : x.1 = y.1 := by
      rcases Nat.lt_trichotomy x.1 y.1 with hlt | heq | hlt
      · have h1 := (h (y.1 - 1)).1 (mem_cons.2 (.inl ⟨by omega, by omega⟩))
        rcases mem_cons.1 h1 with h1 | h1
        · omega
        · have := r1 _ h1; omega
      · exact heq
      · have h1 := (h (x.1 - 1)).2 (mem_cons.2 (.inl ⟨by omega, by omega⟩))
        rcases mem_cons.1 h1 with h1 | h1
        · omega
        · have := l1 _ h1; omega
    obtain rfl : x = y := Prod.ext e1 e2
    congr 1
    refine fall_ext hl.2.2 hr.2.2 fun m => ⟨fun hm => ?_, fun hm => ?_⟩
    · rcases mem_cons.1 ((h m).1 (mem_cons.2 (.inr hm))) with h1 | h1
      · have := l1 _ hm; omega
      · exact h1
    · rcases mem_cons.1 ((h m).2 (mem_cons.2 (.inr hm))) with h1 | h1
      · have := r1 _ hm; omega
      · exact h1

/-- n, which is not there, put in -/
def putR (n : Nat) : RL → RL
  | [] => [(n, n)]
  | x :: r =>
    if n < x.1 then
      if n + 1 = x.1 then
        match r with
        | [] => [(n, x.2)]
        | y :: t => if y.2 + 1 = n then (y.1, x.2) :: t else (n, x.2) :: y :: t
      else x :: putR n r
    else if x.2 + 1 = n then (x.1, n) :: r else (n, n) :: x :: r
theorem mem_put {n m : Nat} : ∀ {l : RL} {B : Nat}, Fall B l → ¬ Mem n l → (Mem m (putR n l) ↔ m = n ∨ Mem m l)
  | [], _, _, _ => by simp [putR, mem_cons, mem_nil]; omega
  | x :: r, B, hf, hn => by
    have h1 : ¬ (x.1 ≤ n ∧ n ≤ x.2) := fun h => hn (mem_cons.2 (.inl h))
    have h2 : ¬ Mem n r := fun h => hn (mem_cons.2 (.inr h))
    have h3 := hf.1
    have h4 := hf.2.1
    unfold putR
    by_cases c1 : n < x.1
    · rw [if_pos c1]
      by_cases c2 : n + 1 = x.1
      · rw [if_pos c2]
        cases r with
        | nil => simp only [mem_cons, mem_nil, or_false]; omega
        | cons y t =>
          have h5 := hf.2.2.2.1
          have h6 := hf.2.2.1
          simp only
          by_cases c3 : y.2 + 1 = n
          · rw [if_pos c3]; simp only [mem_cons]
            constructor
            · rintro (h | h)
              · by_cases e : m = n
                · exact .inl e
                · exact .inr (by omega)
              · exact .inr (.inr (.inr h))
            · rintro (h | h | h | h) <;> first | exact .inr h | exact .inl (by omega)
          · rw [if_neg c3]; simp only [mem_cons]
            constructor
            · rintro (h | h)
              · by_cases e : m = n
                · exact .inl e
                · exact .inr (.inl (by omega))
              · exact .inr (.inr h)
            · rintro (h | h | h) <;> first | exact .inr h | exact .inl (by omega)
      · rw [if_neg c2, mem_cons, mem_put hf.2.2 h2, mem_cons]
        constructor
        · rintro (h | h | h)
          · exact .inr (.inl h)
          · exact .inl h
          · exact .inr (.inr h)
        · rintro (h | h | h)
          · exact .inr (.inl h)
          · exact .inl h
          · exact .inr (.inr h)
    · rw [if_neg c1]
      by_cases c2 : x.2 + 1 = n
      · rw [if_pos c2]; simp only [mem_cons]
        constructor
        · rintro (h | h)
          · by_cases e : m = n
            · exact .inl e
            · exact .inr (.inl (by omega))
          · exact .inr (.inr h)
        · rintro (h | h | h) <;> first | exact .inr h | exact .inl (by omega)
      · rw [if_neg c2]; simp only [mem_cons]
        constructor
        · rintro (h | h)
          · exact .inl (by omega)
          · exact .inr h
        · rintro (h | h)
          · exact .inl (by omega)
          · exact .inr h
theorem fall_put {n : Nat} : ∀ {l : RL} {B : Nat}, Fall B l → ¬ Mem n l → n + 1 < B → Fall B (putR n l)
  | [], _, _, _, hB => by simp [putR, Fall, hB]
  | x :: r, B, hf, hn, hB => by
    have h1 : ¬ (x.1 ≤ n ∧ n ≤ x.2) := fun h => hn (mem_cons.2 (.inl h))
    have h2 : ¬ Mem n r := fun h => hn (mem_cons.2 (.inr h))
    have h3 := hf.1
    have h4 := hf.2.1
    unfold putR
    by_cases c1 : n < x.1
    · rw [if_pos c1]
      by_cases c2 : n + 1 = x.1
      · rw [if_pos c2]
        cases r with
        | nil => exact ⟨by simp only; omega, by simp only; omega, trivial⟩
        | cons y t =>
          have h5 := hf.2.2.2.1
          have h6 := hf.2.2.1
          simp only
          by_cases c3 : y.2 + 1 = n
          · rw [if_pos c3]
            exact ⟨by simp only; omega, by simp only; omega, hf.2.2.2.2⟩
          · rw [if_neg c3]
            have : ¬ (y.1 ≤ n ∧ n ≤ y.2) := fun h => h2 (mem_cons.2 (.inl h))
            exact ⟨by simp only; omega, by simp only; omega, h6, by simp only; omega, hf.2.2.2.2⟩
      · rw [if_neg c2]
        exact ⟨h3, h4, fall_put hf.2.2 h2 (by omega)⟩
    · rw [if_neg c1]
      by_cases c2 : x.2 + 1 = n
      · rw [if_pos c2]
        exact ⟨by simp only; omega, by simp only; omega, hf.2.2⟩
      · rw [if_neg c2]
        exact ⟨Nat.le_refl _, hB, h3, by simp only; omega, hf.2.2⟩
theorem put_length (n : Nat) (l : RL) : (putR n l).length ≤ l.length + 1 := by
  induction l with
  | nil => simp [putR]
  | cons x r ih =>
    unfold putR
    split
    · split
      · cases r with
        | nil => simp
        | cons y t => simp only; split <;> simp
      · simp only [List.length_cons]; omega
    · split <;> simp
/-- what is ahead of n's place stays -/
theorem put_skip (n : Nat) (bs : RL) : ∀ as : RL, (∀ x ∈ as, n + 1 < x.1) → putR n (as ++ bs) = as ++ putR n bs
  | [], _ => rfl
  | x :: r, h => by
    have h1 := h x (List.mem_cons_self ..)
    rw [List.cons_append, putR.eq_def]
    simp only
    rw [if_pos (by omega), if_neg (by omega), put_skip n bs r fun y hy => h y (List.mem_cons_of_mem _ hy)]
    rfl

/-- all below n is forgotten -/
def belowR (n : Nat) : RL → RL
  | [] => []
  | x :: r => if x.2 < n then [] else if x.1 < n then [(n, x.2)] else x :: belowR n r
theorem mem_below {n m : Nat} : ∀ {l : RL} {B : Nat}, Fall B l → (Mem m (belowR n l) ↔ Mem m l ∧ n ≤ m)
  | [], _, _ => by simp [belowR, mem_nil]
  | x :: r, B, hf => by
    have h3 := hf.1
    unfold belowR
    by_cases c1 : x.2 < n
    · rw [if_pos c1]
      refine ⟨fun h => absurd h mem_nil, fun ⟨h, h'⟩ => ?_⟩
      rcases mem_cons.1 h with h | h
      · omega
      · have := hf.2.2.lt h; omega
    · rw [if_neg c1]
      by_cases c2 : x.1 < n
      · rw [if_pos c2]
        simp only [mem_cons, mem_nil, or_false]
        refine ⟨fun h => ⟨.inl (by omega), by omega⟩, fun ⟨h, h'⟩ => ?_⟩
        rcases h with h | h
        · omega
        · have := hf.2.2.lt h; omega
      · rw [if_neg c2]
        simp only [mem_cons, mem_below hf.2.2]
        refine ⟨fun h => ?_, fun ⟨h, h'⟩ => ?_⟩
        · rcases h with h | h
          · exact ⟨.inl h, by omega⟩
          · exact ⟨.inr h.1, h.2⟩
        · rcases h with h | h
          · exact .inl h
          · exact .inr ⟨h, h'⟩
theorem fall_below {n : Nat} : ∀ {l : RL} {B : Nat}, Fall B l → Fall B (belowR n l)
  | [], _, _ => trivial
  | x :: r, B, hf => by
    unfold belowR
    split
    · trivial
    · split
      · exact ⟨by simp only; omega, hf.2.1, trivial⟩
      · exact ⟨hf.1, hf.2.1, fall_below hf.2.2⟩
theorem below_length (n : Nat) (l : RL) : (belowR n l).length ≤ l.length := by
  induction l with
  | nil => simp [belowR]
  | cons x r ih =>
    unfold belowR
    split
    · simp
    · split <;> simp <;> omega
theorem below_none {n : Nat} {l : RL} (h : ∀ x ∈ l, x.2 < n) : belowR n l = [] := by
  cases l with
  | nil => rfl
  | cons x r => rw [belowR, if_pos (h x (List.mem_cons_self ..))]
/-- where the last one that reaches n is x -/
theorem below_cut {n : Nat} {x : Nat × Nat} {bs : RL} (hx : n ≤ x.2) (h' : ∀ y ∈ bs, y.2 < n) : ∀ {as : RL} {B : Nat}, Fall B (as ++ x :: bs) → belowR n (as ++ x :: bs) = as ++ [(max x.1 n, x.2)]
  | [], _, hf => by
    rw [List.nil_append, List.nil_append, belowR, if_neg (by omega)]
    by_cases c : x.1 < n
    · rw [if_pos c, Nat.max_eq_right (by omega)]
    · rw [if_neg c, below_none h', Nat.max_eq_left (by omega)]
  | y :: r, _, hf => by
    have h1 := hf.1
    have h2 := (Fall.at_ hf.2.2 (x := x) (by simp)).2
    have h3 := (Fall.at_ hf.2.2 (x := x) (by simp)).1
    rw [List.cons_append, belowR, if_neg (by omega), if_neg (by omega), below_cut hx h' hf.2.2]
    rfl
theorem Fall.of_cut {bs : RL} : ∀ {as : RL} {B : Nat}, Fall B (as ++ bs) → Fall B as
  | [], _, _ => trivial
  | x :: r, _, h => ⟨h.1, h.2.1, Fall.of_cut h.2.2⟩

/-- a set: how many ranges, the floor, the ranges -/
structure RS where
  most : Nat
  fl : Nat
  l : RL
def RS.mem (s : RS) (n : Nat) : Prop := n < s.fl ∨ Mem n s.l
instance (m : Nat) (l : RL) : Decidable (Mem m l) := inferInstanceAs (Decidable (∃ x ∈ l, x.1 ≤ m ∧ m ≤ x.2))
instance (s : RS) (n : Nat) : Decidable (s.mem n) := inferInstanceAs (Decidable (_ ∨ _))
def RS.hasB (s : RS) (n : Nat) : Bool := decide (s.mem n)
def RS.below (s : RS) (n : Nat) : RS := if n ≤ s.fl then s else { s with fl := n, l := belowR n s.l }
/-- a lowest range too many is forgotten -/
def RS.forget (s : RS) : RS :=
  if s.most < s.l.length then
    match s.l.getLast? with
    | some x => s.below (x.2 + 1)
    | none => s
  else s
def RS.newB (s : RS) (n : Nat) : Bool := decide (n ≤ topV ∧ ¬ s.mem n)
def RS.add (s : RS) (n : Nat) : RS := if s.newB n then ({ s with l := putR n s.l } : RS).forget else s
/-- how a set is -/
structure RS.Ok (s : RS) : Prop where
  fall : Fall (topV + 2) s.l
  fl : ∀ x ∈ s.l, s.fl ≤ x.1
  len : s.l.length ≤ s.most
  most : 1 ≤ s.most ∧ s.most ≤ 64
  flt : s.fl < 18446744073709551616
def RS.new (most : Nat) : RS := ⟨most, 0, []⟩
theorem RS.new_ok {m : Nat} (h : 1 ≤ m) (h' : m ≤ 64) : (RS.new m).Ok := ⟨trivial, by simp [RS.new], by simp [RS.new], ⟨h, h'⟩, by simp [RS.new]⟩
theorem fl_below {n : Nat} : ∀ {l : RL}, ∀ x ∈ belowR n l, n ≤ x.1
  | [], x, hx => by cases hx
  | y :: r, x, hx => by
    unfold belowR at hx
    split at hx
    · cases hx
    · split at hx
      · obtain rfl : x = (n, y.2) := by simpa using hx
        exact Nat.le_refl _
      · rcases List.mem_cons.1 hx with rfl | hx
        · omega
        · exact fl_below x hx
theorem RS.below_ok {s : RS} (h : s.Ok) {n : Nat} (hn : n < 18446744073709551616) : (s.below n).Ok := by
  unfold RS.below
  split
  · exact h
  · exact ⟨fall_below h.fall, fl_below, Nat.le_trans (below_length _ _) h.len, h.most, hn⟩
theorem putR_ne (n : Nat) (l : RL) : putR n l ≠ [] := by
  cases l with
  | nil => simp [putR]
  | cons x r =>
    unfold putR
    split
    · split
      · cases r with
        | nil => simp
        | cons y t => simp only; split <;> simp
      · simp
    · split <;> simp
theorem fall_last {l : RL} {x : Nat × Nat} {B : Nat} (hf : Fall B (l ++ [x])) : belowR (x.2 + 1) (l ++ [x]) = l := by
  induction l generalizing B with
  | nil => simp [belowR]
  | cons y r ih =>
    have h1 := (Fall.at_ hf.2.2 (x := x) (by simp)).2
    have h2 := hf.1
    rw [List.cons_append, belowR, if_neg (by omega), if_neg (by omega), ih hf.2.2]
/-- what a new number leaves -/
theorem RS.add_new {s : RS} (h : s.Ok) {n : Nat} (hn : s.newB n = true) : ∃ l1, putR n s.l = l1 ∧ Fall (topV + 2) l1 ∧ (∀ m, Mem m l1 ↔ m = n ∨ Mem m s.l) ∧ l1.length ≤ s.most + 1 ∧ (∀ x ∈ l1, s.fl ≤ x.1) ∧
    ((l1.length ≤ s.most ∧ s.add n = { s with l := l1 }) ∨ (∃ l2 x, l1 = l2 ++ [x] ∧ l2.length = s.most ∧ s.add n = ⟨s.most, x.2 + 1, l2⟩)) := by
  have hn' : n ≤ topV ∧ ¬ s.mem n := by simpa [RS.newB] using hn
  have hm : ¬ Mem n s.l := fun hh => hn'.2 (.inr hh)
  have hf : ¬ n < s.fl := fun hh => hn'.2 (.inl hh)
  have F := fall_put h.fall hm (by unfold topV at *; omega : n + 1 < topV + 2)
  have M := fun m => mem_put (m := m) h.fall hm
  have hl := put_length n s.l
  have hb : ∀ x ∈ putR n s.l, s.fl ≤ x.1 := fun x hx => by
    rcases (M x.1).1 (mem_of F hx).2 with h1 | ⟨y, hy, h1⟩
    · omega
    · have := h.fl y hy; omega
  refine ⟨putR n s.l, rfl, F, M, by have := h.len; omega, hb, ?_⟩
  by_cases hc : s.most < (putR n s.l).length
  · obtain ⟨l2, x, e⟩ : ∃ l2 x, putR n s.l = l2 ++ [x] := by
      rcases List.eq_nil_or_concat (putR n s.l) with e | ⟨l2, x, e⟩
      · exact absurd e (putR_ne _ _)
      · exact ⟨l2, x, by simpa using e⟩
    refine .inr ⟨l2, x, e, by have := h.len; rw [e, List.length_append, List.length_singleton] at hl hc; omega, ?_⟩
    have hx : s.fl < x.2 + 1 := by
      have h1 := hb x (by rw [e]; simp)
      have h2 := (F.at_ (x := x) (by rw [e]; simp)).1
      omega
    rw [RS.add, if_pos hn, RS.forget, if_pos hc, e]
    simp only [List.getLast?_append, List.getLast?_singleton, Option.some_or]
    rw [RS.below, if_neg (by simpa using hx)]
    simp only
    rw [fall_last (by rw [← e]; exact F)]
  · refine .inl ⟨by omega, ?_⟩
    rw [RS.add, if_pos hn, RS.forget, if_neg hc]
theorem RS.add_old {s : RS} {n : Nat} (hn : s.newB n = false) : s.add n = s := by simp [RS.add, hn]
theorem RS.add_most (s : RS) (n : Nat) : (s.add n).most = s.most := by
  unfold RS.add
  split
  · unfold RS.forget
    split
    · split
      · unfold RS.below; split <;> rfl
      · rfl
    · rfl
  · rfl
theorem RS.add_ok {s : RS} (h : s.Ok) (n : Nat) : (s.add n).Ok := by
  by_cases hn : s.newB n = true
  · obtain ⟨l1, _, F, M, hl, hb, h1 | ⟨l2, x, e, e2, h1⟩⟩ := RS.add_new h hn
    · rw [h1.2]
      exact ⟨F, hb, h1.1, h.most, h.flt⟩
    · rw [h1]
      have hx := (F.at_ (x := x) (by rw [e]; simp)).2
      refine ⟨(e ▸ F).of_cut, fun y hy => ?_, by simp only; omega, h.most, by unfold topV at hx; simp only; omega⟩
      have hk : ∀ (l : RL) (B : Nat), Fall B (l ++ [x]) → ∀ y ∈ l, x.2 + 1 < y.1 := by
        intro l
        induction l with
        | nil => intro _ _ y hy; cases hy
        | cons z r ih =>
          intro B hf y hy
          rcases List.mem_cons.1 hy with rfl | hy
          · exact (Fall.at_ hf.2.2 (x := x) (by simp)).2
          · exact ih _ hf.2.2 y hy
      exact Nat.le_of_lt (hk l2 _ (e ▸ F) y hy)
  · rw [RS.add_old (by simpa using hn)]
    exact h
end Go.Proofs.Ytjbhhmjkdhkhaaa

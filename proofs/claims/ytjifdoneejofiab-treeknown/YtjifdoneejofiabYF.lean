/- Stable order: mathematics of merging runs, code-free. -/
import Derived.Test.YtjifdoneejofiabU2
namespace Go.Proofs.Ytjifdoneejofiab
set_option linter.unusedVariables false
set_option linter.unusedSimpArgs false

namespace Ss
variable {α : Type}
/-- an order of texts: what it must keep -/
structure Cmp (c : α → α → Int) : Prop where
  neg : ∀ a b, c b a = - c a b
  trans : ∀ a b d, c a b ≤ 0 → c b d ≤ 0 → c a d ≤ 0
  lt : ∀ a b d, c a b < 0 → c b d ≤ 0 → c a d < 0
/-- ahead, or as far and came first -/
def r (c : α → α → Int) (x y : α × Nat) : Prop := c x.1 y.1 < 0 ∨ (c x.1 y.1 = 0 ∧ x.2 < y.2)
theorem Cmp.lt' {c : α → α → Int} (h : Cmp c) {a b d : α} (h1 : c a b ≤ 0) (h2 : c b d < 0) : c a d < 0 := by
  rcases Int.lt_or_le (c a d) 0 with g | g
  · exact g
  · have e1 := h.neg a d
    have e2 := h.neg b d
    have := h.trans d a b (by omega) h1
    omega
theorem r_trans {c : α → α → Int} (h : Cmp c) {x y z : α × Nat} (h1 : r c x y) (h2 : r c y z) : r c x z := by
  rcases h1 with h1 | ⟨h1, k1⟩
  · rcases h2 with h2 | ⟨h2, k2⟩
    · exact .inl (h.lt _ _ _ h1 (by omega))
    · exact .inl (h.lt _ _ _ h1 (by omega))
  · rcases h2 with h2 | ⟨h2, k2⟩
    · exact .inl (h.lt' (b := y.1) (by omega) h2)
    · have a1 := h.trans x.1 y.1 z.1 (by omega) (by omega)
      have e1 := h.neg x.1 y.1
      have e2 := h.neg y.1 z.1
      have e3 := h.neg x.1 z.1
      have a2 := h.trans z.1 y.1 x.1 (by omega) (by omega)
      exact .inr ⟨by omega, by omega⟩
theorem r_asymm {c : α → α → Int} (h : Cmp c) {x y : α × Nat} (h1 : r c x y) (h2 : r c y x) : False := by
  have e := h.neg x.1 y.1
  rcases h1 with h1 | ⟨h1, k1⟩ <;> rcases h2 with h2 | ⟨h2, k2⟩ <;> omega
theorem r_of_lt {c : α → α → Int} {x y : α × Nat} (h : c x.1 y.1 < 0) : r c x y := .inl h
theorem r_of_not {c : α → α → Int} (h : Cmp c) {x y : α × Nat} (h1 : ¬ c y.1 x.1 < 0) (h2 : x.2 < y.2) : r c x y := by
  have e := h.neg x.1 y.1
  rcases Int.lt_or_le (c x.1 y.1) 0 with g | g
  · exact .inl g
  · exact .inr ⟨by omega, h2⟩
def St (c : α → α → Int) (l : List (α × Nat)) : Prop := l.Pairwise (r c)
/-- all that came ahead -/
def Ahead (X Y : List (α × Nat)) : Prop := ∀ x ∈ X, ∀ y ∈ Y, x.2 < y.2
theorem st_append {c : α → α → Int} {X Y : List (α × Nat)} : St c (X ++ Y) ↔ St c X ∧ St c Y ∧ ∀ x ∈ X, ∀ y ∈ Y, r c x y := List.pairwise_append
theorem st_last {c : α → α → Int} (h : Cmp c) {X : List (α × Nat)} {z x : α × Nat} (hs : St c (X ++ [z])) (hz : r c z x) : ∀ y ∈ X ++ [z], r c y x := by
  intro y hy
  rcases List.mem_append.1 hy with g | g
  · exact r_trans h ((st_append.1 hs).2.2 y g z (List.mem_singleton.2 rfl)) hz
  · rw [List.mem_singleton.1 g]; exact hz
theorem st_head {c : α → α → Int} (h : Cmp c) {Y : List (α × Nat)} {z x : α × Nat} (hs : St c (z :: Y)) (hz : r c x z) : ∀ y ∈ z :: Y, r c x y := by
  intro y hy
  rcases List.mem_cons.1 hy with g | g
  · rw [g]; exact hz
  · exact r_trans h hz ((List.pairwise_cons.1 hs).1 y g)
/-- one put into its place -/
theorem st_insert {c : α → α → Int} (h : Cmp c) {X Y : List (α × Nat)} {x : α × Nat} (hs : St c (X ++ Y)) (h1 : ∀ z ∈ Y, r c x z) (h2 : ∀ z ∈ X, r c z x) : St c (X ++ x :: Y) := by
  have hs := st_append.1 hs
  refine st_append.2 ⟨hs.1, List.pairwise_cons.2 ⟨h1, hs.2.1⟩, fun a ha b hb => ?_⟩
  rcases List.mem_cons.1 hb with g | g
  · rw [g]; exact h2 a ha
  · exact hs.2.2 a ha b g
/-- the first k and what is behind: X up to the last, Y from its first on -/
def Over (c : α → α → Int) (X Y : List (α × Nat)) : Prop := ∀ x ∈ X, ∀ y ∈ Y, r c x y
theorem over_of {c : α → α → Int} (h : Cmp c) {X Y : List (α × Nat)} (hX : St c X) (hY : St c Y) (k : X = [] ∨ Y = [] ∨ ∃ x y, X.getLast? = some x ∧ Y.head? = some y ∧ r c x y) : Over c X Y := by
  rcases k with rfl | rfl | ⟨x, y, hx, hy, hr⟩
  · intro x hx; cases hx
  · intro x _ y hy; cases hy
  · obtain ⟨X', rfl⟩ := List.getLast?_eq_some_iff.1 hx
    obtain ⟨Y', rfl⟩ : ∃ Y', Y = y :: Y' := by
      cases Y with
      | nil => cases hy
      | cons a b => simp at hy; exact ⟨b, by rw [hy]⟩
    intro a ha b hb
    exact st_head h hY (st_last h hX hr a ha) b hb
/-- two halves merged are merged -/
theorem st_merge {c : α → α → Int} {X1 X2 Y1 Y2 Z1 Z2 : List (α × Nat)} (hX : St c (X1 ++ X2)) (hY : St c (Y1 ++ Y2)) (p1 : Z1.Perm (X1 ++ Y1)) (p2 : Z2.Perm (X2 ++ Y2)) (s1 : St c Z1) (s2 : St c Z2) (o1 : Over c X1 Y2) (o2 : Over c Y1 X2) : St c (Z1 ++ Z2) ∧ (Z1 ++ Z2).Perm ((X1 ++ X2) ++ (Y1 ++ Y2)) := by
  constructor
  · refine st_append.2 ⟨s1, s2, fun a ha b hb => ?_⟩
    have ha := List.mem_append.1 (p1.mem_iff.1 ha)
    have hb := List.mem_append.1 (p2.mem_iff.1 hb)
    rcases ha with ha | ha <;> rcases hb with hb | hb
    · exact (st_append.1 hX).2.2 a ha b hb
    · exact o1 a ha b hb
    · exact o2 a ha b hb
    · exact (st_append.1 hY).2.2 a ha b hb
  · refine (p1.append p2).trans ?_
    simp only [List.append_assoc]
    refine List.Perm.append_left X1 ?_
    rw [← List.append_assoc, ← List.append_assoc]
    exact List.Perm.append_right Y2 List.perm_append_comm
/-- one order alone -/
theorem st_one {c : α → α → Int} (h : Cmp c) : ∀ {l m : List (α × Nat)}, St c l → St c m → l.Perm m → l = m
  | [], m, _, _, p => (List.Perm.nil_eq p)
  | x :: l, [], _, _, p => (List.Perm.nil_eq p.symm).symm
  | x :: l, y :: m, hl, hm, p => by
    have hl' := List.pairwise_cons.1 hl
    have hm' := List.pairwise_cons.1 hm
    have e : x = y := by
      have h1 : x ∈ y :: m := p.mem_iff.1 (List.mem_cons_self ..)
      have h2 : y ∈ x :: l := p.mem_iff.2 (List.mem_cons_self ..)
      rcases List.mem_cons.1 h1 with g | g
      · exact g
      · rcases List.mem_cons.1 h2 with g2 | g2
        · exact g2.symm
        · exact (r_asymm h (hm'.1 x g) (hl'.1 y g2)).elim
    subst e
    rw [st_one h hl'.2 hm'.2 (List.Perm.cons_inv p)]
/-- each with its place -/
def tag : Nat → List α → List (α × Nat)
  | _, [] => []
  | n, x :: l => (x, n) :: tag (n + 1) l
theorem tag_map : ∀ (n : Nat) (l : List α), (tag n l).map (·.1) = l
  | _, [] => rfl
  | n, x :: l => by simp only [tag, List.map_cons, tag_map (n + 1) l]
theorem tag_len (n : Nat) (l : List α) : (tag n l).length = l.length := by
  have := congrArg List.length (tag_map n l); rwa [List.length_map] at this
theorem tag_ge : ∀ (n : Nat) (l : List α), ∀ x ∈ tag n l, n ≤ x.2 ∧ x.2 < n + l.length
  | _, [], x, h => by cases h
  | n, y :: l, x, h => by
    rcases List.mem_cons.1 h with g | g
    · rw [g]; simp
    · have := tag_ge (n + 1) l x g
      simp only [List.length_cons]
      omega
theorem tag_append : ∀ (n : Nat) (l m : List α), tag n (l ++ m) = tag n l ++ tag (n + l.length) m
  | n, [], m => by simp [tag]
  | n, x :: l, m => by
    simp only [List.cons_append, tag, tag_append (n + 1) l m, List.length_cons]
    rw [show n + 1 + l.length = n + (l.length + 1) by omega]
theorem tag_ahead (n : Nat) (l : List α) (k : Nat) : Ahead ((tag n l).take k) ((tag n l).drop k) := by
  intro x hx y hy
  rcases Nat.lt_or_ge k l.length with g | g
  · have e : tag n l = tag n (l.take k) ++ tag (n + (l.take k).length) (l.drop k) := by rw [← tag_append, List.take_append_drop]
    have hk : (tag n (l.take k)).length = k := by rw [tag_len, List.length_take]; omega
    rw [e, List.take_left' hk] at hx
    rw [e, List.drop_left' hk] at hy
    have h1 := tag_ge _ _ x hx
    have h2 := tag_ge _ _ y hy
    omega
  · rw [List.drop_eq_nil_of_le (by rw [tag_len]; exact g)] at hy; cases hy
/-- a list in stable order -/
def Stable (c : α → α → Int) (t s : List α) : Prop := ∃ T : List (α × Nat), T.map (·.1) = s ∧ T.Perm (tag 0 t) ∧ St c T
theorem stable_one {c : α → α → Int} (h : Cmp c) {t a b : List α} (ha : Stable c t a) (hb : Stable c t b) : a = b := by
  obtain ⟨T, h1, h2, h3⟩ := ha
  obtain ⟨U, g1, g2, g3⟩ := hb
  rw [← h1, ← g1, st_one h h3 g3 (h2.trans g2.symm)]
theorem stable_nil (c : α → α → Int) : Stable c [] [] := ⟨[], rfl, List.Perm.refl _, List.Pairwise.nil⟩
/-- one more -/
theorem stable_snoc {c : α → α → Int} (h : Cmp c) {t o1 o2 : List α} {x : α} (hs : Stable c t (o1 ++ o2)) (h1 : ∀ z ∈ o2, 0 < c z x) (h2 : o1 = [] ∨ ∃ z, o1.getLast? = some z ∧ ¬ 0 < c z x) : Stable c (t ++ [x]) (o1 ++ x :: o2) := by
  obtain ⟨T, e, p, s⟩ := hs
  have e1 : T = T.take o1.length ++ T.drop o1.length := (List.take_append_drop _ _).symm
  have m1 : (T.take o1.length).map (·.1) = o1 := by rw [List.map_take, e, List.take_left]
  have m2 : (T.drop o1.length).map (·.1) = o2 := by rw [List.map_drop, e, List.drop_left]
  have hlt : ∀ y ∈ T, y.2 < t.length := fun y hy => by
    have := tag_ge 0 t y (p.mem_iff.1 hy); omega
  generalize hA : T.take o1.length = A at *
  generalize hB : T.drop o1.length = B at *
  subst e1
  refine ⟨A ++ (x, t.length) :: B, by simp [m1, m2], ?_, ?_⟩
  · rw [tag_append, Nat.zero_add]
    refine List.perm_middle.trans ?_
    refine List.Perm.trans (List.Perm.cons _ p) ?_
    exact (List.perm_append_singleton _ _).symm
  · have hz : ∀ z, c z x = - c x z := fun z => h.neg x z
    refine st_insert h s (fun z hz' => .inl ?_) ?_
    · have : z.1 ∈ o2 := by rw [← m2]; exact List.mem_map_of_mem hz'
      have := h1 _ this
      have := hz z.1
      show c x z.1 < 0
      omega
    · rcases h2 with g | ⟨z, g, k⟩
      · intro y hy
        have : A = [] := by rw [g] at m1; simpa using m1
        rw [this] at hy; cases hy
      · obtain ⟨O, hO⟩ := List.getLast?_eq_some_iff.1 g
        rw [hO] at m1
        obtain ⟨A', a, hA', ha1, ha2⟩ : ∃ A' a, A = A' ++ [a] ∧ a.1 = z ∧ A'.map (·.1) = O := by
          obtain ⟨A', A2, hh, q1, q2⟩ := List.map_eq_append_iff.1 m1
          obtain ⟨a, A3, rfl, q3, q4⟩ := List.map_eq_cons_iff.1 q2
          have : A3 = [] := by simpa using q4
          subst this
          exact ⟨A', a, hh, q3, q1⟩
        subst hA'
        refine st_last h (st_append.1 s).1 ?_
        have hm : a.2 < t.length := hlt a (by simp)
        rw [← ha1] at k
        have := hz a.1
        refine r_of_not h (x := a) (y := (x, t.length)) ?_ hm
        show ¬ c x a.1 < 0
        omega
theorem Stable.perm {c : α → α → Int} {t s : List α} (h : Stable c t s) : s.Perm t := by
  obtain ⟨T, e, p, _⟩ := h
  have := p.map (·.1)
  rwa [e, tag_map] at this
theorem Stable.map {β : Type} {c : α → α → Int} {d : β → β → Int} (f : α → β) (hf : ∀ a b, d (f a) (f b) = c a b) {t s : List α} (h : Stable c t s) : Stable d (t.map f) (s.map f) := by
  obtain ⟨T, e, p, st⟩ := h
  refine ⟨T.map (fun x => (f x.1, x.2)), by rw [← e]; simp, ?_, ?_⟩
  · have hh : ∀ n (l : List α), tag n (l.map f) = (tag n l).map (fun x => (f x.1, x.2)) := by
      intro n l
      induction l generalizing n with
      | nil => rfl
      | cons a l ih => simp only [List.map_cons, tag, ih]
    rw [hh]; exact p.map _
  · unfold St
    rw [List.pairwise_map]
    refine List.Pairwise.imp ?_ st
    intro a b hab
    unfold r at hab ⊢
    rw [hf]; exact hab
/-- what is sorted already, none twice, is its own order -/
theorem stable_self {c : α → α → Int} {t s : List α} (hs : s.Pairwise fun a b => c a b < 0) (hp : s.Perm t) : Stable c t s := by
  have : ∀ (T : List (α × Nat)) (s : List α), s.Perm (T.map (·.1)) → ∃ U : List (α × Nat), U.map (·.1) = s ∧ U.Perm T := by
    intro T s h
    induction s generalizing T with
    | nil =>
      have : T = [] := by have := h.symm.eq_nil; simpa using this
      subst this; exact ⟨[], rfl, List.Perm.refl _⟩
    | cons a s ih =>
      have hm : a ∈ T.map (·.1) := h.mem_iff.1 (List.mem_cons_self ..)
      obtain ⟨x, hx, hxa⟩ := List.mem_map.1 hm
      obtain ⟨T1, T2, rfl⟩ := List.append_of_mem hx
      have h' : s.Perm ((T1 ++ T2).map (·.1)) := by
        have h2 : (T1 ++ x :: T2).map (·.1) = T1.map (·.1) ++ a :: T2.map (·.1) := by simp [hxa]
        rw [h2] at h
        have := h.trans List.perm_middle
        rw [List.map_append]
        exact this.cons_inv
      obtain ⟨U, hU1, hU2⟩ := ih _ h'
      exact ⟨x :: U, by simp [hU1, hxa], (List.Perm.cons _ hU2).trans List.perm_middle.symm⟩
  obtain ⟨U, h1, h2⟩ := this (tag 0 t) s (by rw [tag_map]; exact hp)
  refine ⟨U, h1, h2, ?_⟩
  unfold St
  rw [← h1, List.pairwise_map] at hs
  exact hs.imp fun h => .inl h
/-- runs of so many -/
structure Runs (c : α → α → Int) (bs : Nat) (T : List (α × Nat)) : Prop where
  st : ∀ k, St c ((T.drop (k * bs)).take bs)
  cut : ∀ k, Ahead (T.take (k * bs)) (T.drop (k * bs))
theorem Runs.all {c : α → α → Int} {bs : Nat} {T : List (α × Nat)} (h : Runs c bs T) (hn : T.length ≤ bs) : St c T := by
  have := h.st 0
  rwa [Nat.zero_mul, List.drop_zero, List.take_of_length_le hn] at this
/-- under way: up to a in runs of twice as many, from there on of as many -/
structure Mid (c : α → α → Int) (bs k : Nat) (T : List (α × Nat)) : Prop where
  big : ∀ q, q < k → St c ((T.drop (q * (2 * bs))).take (2 * bs))
  small : ∀ q, 2 * k ≤ q → St c ((T.drop (q * bs)).take bs)
  cutB : ∀ q, Ahead (T.take (q * (2 * bs))) (T.drop (q * (2 * bs)))
  cutS : ∀ q, 2 * k ≤ q → Ahead (T.take (q * bs)) (T.drop (q * bs))
theorem Mid.start {c : α → α → Int} {bs : Nat} {T : List (α × Nat)} (h : Runs c bs T) : Mid c bs 0 T :=
  ⟨fun q hq => absurd hq (Nat.not_lt_zero _), fun q _ => h.st q, fun q => by have := h.cut (q * 2); rwa [Nat.mul_assoc] at this, fun q _ => h.cut q⟩
theorem take_pre {A B : List α} {p : Nat} (h : p ≤ A.length) : (A ++ B).take p = A.take p := List.take_append_of_le_length h
theorem drop_pre {A B : List α} {p : Nat} (h : p ≤ A.length) : (A ++ B).drop p = A.drop p ++ B := List.drop_append_of_le_length h
/-- one merge more -/
theorem Mid.step {c : α → α → Int} {bs k : Nat} {A W Z B : List (α × Nat)} (hb : 0 < bs) (h : Mid c bs k (A ++ (W ++ B))) (hA : A.length = k * (2 * bs)) (hW : W.length = 2 * bs ∨ (W.length ≤ 2 * bs ∧ B = [])) (hp : Z.Perm W) (hs : St c Z) : Mid c bs (k + 1) (A ++ (Z ++ B)) := by
  have hl := hp.length_eq
  have cutOf : ∀ p, (p ≤ A.length ∨ A.length + W.length ≤ p) → Ahead ((A ++ (W ++ B)).take p) ((A ++ (W ++ B)).drop p) → Ahead ((A ++ (Z ++ B)).take p) ((A ++ (Z ++ B)).drop p) := by
    intro p hh hc x hx y hy
    rcases hh with g | g
    · rw [take_pre g] at hx
      rw [drop_pre g] at hy
      refine hc x (by rw [take_pre g]; exact hx) y (by
        rw [drop_pre g]
        simp only [List.mem_append] at hy ⊢
        rw [hp.mem_iff] at hy; exact hy)
    · rw [List.take_append, List.take_of_length_le (show A.length ≤ p by omega), List.take_append, List.take_of_length_le (show Z.length ≤ p - A.length by omega)] at hx
      rw [List.drop_append, List.drop_eq_nil_of_le (show A.length ≤ p by omega), List.nil_append, List.drop_append, List.drop_eq_nil_of_le (show Z.length ≤ p - A.length by omega), List.nil_append] at hy
      refine hc x ?_ y ?_
      · rw [List.take_append, List.take_of_length_le (show A.length ≤ p by omega), List.take_append, List.take_of_length_le (show W.length ≤ p - A.length by omega)]
        simp only [List.mem_append] at hx ⊢
        rw [hp.mem_iff] at hx; rw [hl] at hx; exact hx
      · rw [List.drop_append, List.drop_eq_nil_of_le (show A.length ≤ p by omega), List.nil_append, List.drop_append, List.drop_eq_nil_of_le (show W.length ≤ p - A.length by omega), List.nil_append]
        rw [hl] at hy; exact hy
  have e1 : (k + 1) * (2 * bs) = k * (2 * bs) + 2 * bs := by rw [Nat.add_mul, Nat.one_mul]
  have outB : ∀ p, (k + 1) * (2 * bs) ≤ p → Ahead ((A ++ (W ++ B)).take p) ((A ++ (W ++ B)).drop p) → Ahead ((A ++ (Z ++ B)).take p) ((A ++ (Z ++ B)).drop p) := by
    intro p hp' hc
    exact cutOf p (.inr (by rcases hW with g | ⟨g, _⟩ <;> omega)) hc
  have dropSame : ∀ p, A.length + W.length ≤ p → (A ++ (Z ++ B)).drop p = (A ++ (W ++ B)).drop p := by
    intro p g
    rw [List.drop_append, List.drop_eq_nil_of_le (show A.length ≤ p by omega), List.nil_append, List.drop_append, List.drop_eq_nil_of_le (show Z.length ≤ p - A.length by omega), List.nil_append,
      List.drop_append, List.drop_eq_nil_of_le (show A.length ≤ p by omega), List.nil_append, List.drop_append, List.drop_eq_nil_of_le (show W.length ≤ p - A.length by omega), List.nil_append, hl]
  refine ⟨fun q hq => ?_, fun q hq => ?_, fun q => ?_, fun q hq => ?_⟩
  · rcases Nat.lt_or_ge q k with g | g
    · have hb := h.big q g
      have hle : q * (2 * bs) + 2 * bs ≤ A.length := by
        rw [hA]
        have : (q + 1) * (2 * bs) ≤ k * (2 * bs) := Nat.mul_le_mul_right _ g
        rw [Nat.add_mul, Nat.one_mul] at this; exact this
      rw [drop_pre (by omega), take_pre (by rw [List.length_drop]; omega)] at hb ⊢
      exact hb
    · obtain rfl : q = k := by omega
      rw [← hA, List.drop_left]
      rcases hW with g | ⟨g, rfl⟩
      · rw [List.take_left' (by omega)]; exact hs
      · rw [List.append_nil, List.take_of_length_le (by omega)]; exact hs
  · have := h.small q (by omega)
    have hq' : (k + 1) * (2 * bs) ≤ q * bs := by
      have : (2 * (k + 1)) * bs ≤ q * bs := Nat.mul_le_mul_right _ hq
      rw [Nat.mul_assoc, Nat.mul_left_comm] at this; exact this
    rw [dropSame _ (by rcases hW with g | ⟨g, _⟩ <;> omega)]
    exact this
  · have := h.cutB q
    rcases Nat.lt_or_ge k q with g | g
    · exact outB _ (Nat.mul_le_mul_right _ g) this
    · exact cutOf _ (.inl (by rw [hA]; exact Nat.mul_le_mul_right _ g)) this
  · have := h.cutS q (by omega)
    have hq' : (k + 1) * (2 * bs) ≤ q * bs := by
      have : (2 * (k + 1)) * bs ≤ q * bs := Nat.mul_le_mul_right _ hq
      rw [Nat.mul_assoc, Nat.mul_left_comm] at this; exact this
    exact outB _ hq' this
/-- all merged -/
theorem Mid.done {c : α → α → Int} {bs k : Nat} {T : List (α × Nat)} (h : Mid c bs k T) (hn : T.length ≤ k * (2 * bs) + bs) : Runs c (2 * bs) T := by
  refine ⟨fun q => ?_, h.cutB⟩
  rcases Nat.lt_or_ge q k with g | g
  · exact h.big q g
  · rcases Nat.eq_or_lt_of_le g with e | e
    · subst e
      have := h.small (2 * k) (Nat.le_refl _)
      rw [Nat.mul_comm 2 k, Nat.mul_assoc] at this
      rw [List.take_of_length_le (by rw [List.length_drop]; omega)] at this ⊢
      exact this
    · have : (k + 1) * (2 * bs) ≤ q * (2 * bs) := Nat.mul_le_mul_right _ e
      rw [Nat.add_mul, Nat.one_mul] at this
      rw [List.drop_eq_nil_of_le (by omega), List.take_nil]
      exact List.Pairwise.nil
/-- up to k blocks sorted, the rest as it came -/
structure First (c : α → α → Int) (bs k : Nat) (T : List (α × Nat)) : Prop where
  st : ∀ q, q < k → St c ((T.drop (q * bs)).take bs)
  cut : ∀ q, Ahead (T.take (q * bs)) (T.drop (q * bs))
  rest : (T.drop (k * bs)).Pairwise fun x y => x.2 < y.2
theorem tag_rise : ∀ (n : Nat) (l : List α), (tag n l).Pairwise fun x y => x.2 < y.2
  | _, [] => List.Pairwise.nil
  | n, x :: l => List.pairwise_cons.2 ⟨fun y hy => by have := tag_ge (n + 1) l y hy; show n < y.2; omega, tag_rise (n + 1) l⟩
theorem First.start (c : α → α → Int) (bs : Nat) (l : List α) : First c bs 0 (tag 0 l) :=
  ⟨fun q hq => absurd hq (Nat.not_lt_zero _), fun q => tag_ahead 0 l _, by rw [Nat.zero_mul, List.drop_zero]; exact tag_rise 0 l⟩
theorem First.step {c : α → α → Int} {bs k : Nat} {A W Z B : List (α × Nat)} (h : First c bs k (A ++ (W ++ B))) (hA : A.length = k * bs) (hW : W.length = bs ∨ (W.length ≤ bs ∧ B = [])) (hp : Z.Perm W) (hs : St c Z) : First c bs (k + 1) (A ++ (Z ++ B)) := by
  have hl := hp.length_eq
  have e1 : (k + 1) * bs = k * bs + bs := by rw [Nat.add_mul, Nat.one_mul]
  refine ⟨fun q hq => ?_, fun q x hx y hy => ?_, ?_⟩
  · rcases Nat.lt_or_ge q k with g | g
    · have hb := h.st q g
      have hle : q * bs + bs ≤ A.length := by
        rw [hA]
        have : (q + 1) * bs ≤ k * bs := Nat.mul_le_mul_right _ g
        rw [Nat.add_mul, Nat.one_mul] at this; exact this
      rw [drop_pre (by omega), take_pre (by rw [List.length_drop]; omega)] at hb ⊢
      exact hb
    · obtain rfl : q = k := by omega
      rw [← hA, List.drop_left]
      rcases hW with g | ⟨g, rfl⟩
      · rw [List.take_left' (by omega)]; exact hs
      · rw [List.append_nil, List.take_of_length_le (by omega)]; exact hs
  · have hc := h.cut q
    rcases Nat.lt_or_ge k q with g | g
    · have : (k + 1) * bs ≤ q * bs := Nat.mul_le_mul_right _ g
      generalize q * bs = p at *
      have gw : A.length + W.length ≤ p := by rcases hW with g | ⟨g, _⟩ <;> omega
      rw [List.take_append, List.take_of_length_le (show A.length ≤ p by omega), List.take_append, List.take_of_length_le (show Z.length ≤ p - A.length by omega)] at hx
      rw [List.drop_append, List.drop_eq_nil_of_le (show A.length ≤ p by omega), List.nil_append, List.drop_append, List.drop_eq_nil_of_le (show Z.length ≤ p - A.length by omega), List.nil_append] at hy
      refine hc x ?_ y ?_
      · rw [List.take_append, List.take_of_length_le (show A.length ≤ p by omega), List.take_append, List.take_of_length_le (show W.length ≤ p - A.length by omega)]
        simp only [List.mem_append] at hx ⊢
        rw [hp.mem_iff] at hx; rw [hl] at hx; exact hx
      · rw [List.drop_append, List.drop_eq_nil_of_le (show A.length ≤ p by omega), List.nil_append, List.drop_append, List.drop_eq_nil_of_le (show W.length ≤ p - A.length by omega), List.nil_append]
        rw [hl] at hy; exact hy
    · have g : q * bs ≤ A.length := by rw [hA]; exact Nat.mul_le_mul_right _ g
      generalize q * bs = p at *
      rw [take_pre g] at hx
      rw [drop_pre g] at hy
      refine hc x (by rw [take_pre g]; exact hx) y (by
        rw [drop_pre g]
        simp only [List.mem_append] at hy ⊢
        rw [hp.mem_iff] at hy; exact hy)
  · have hr := h.rest
    rw [← hA, List.drop_left] at hr
    have hB := (List.pairwise_append.1 hr).2.1
    rcases hW with g | ⟨g, rfl⟩
    · rw [e1, ← hA, List.drop_append, List.drop_eq_nil_of_le (by omega), List.nil_append, Nat.add_sub_cancel_left, List.drop_left' (by omega)]
      exact hB
    · rw [List.append_nil, List.drop_eq_nil_of_le (by rw [List.length_append]; omega)]
      exact List.Pairwise.nil
theorem First.done {c : α → α → Int} {bs k : Nat} {T : List (α × Nat)} (h : First c bs k T) (hn : T.length ≤ k * bs) : Runs c bs T := by
  refine ⟨fun q => ?_, h.cut⟩
  rcases Nat.lt_or_ge q k with g | g
  · exact h.st q g
  · have : k * bs ≤ q * bs := Nat.mul_le_mul_right _ g
    rw [List.drop_eq_nil_of_le (by omega), List.take_nil]
    exact List.Pairwise.nil
end Ss
namespace Tr
def cmpI (x y : Iv) : Int := Nm.cmp x.it.path y.it.path
theorem cmpI_ok : Ss.Cmp cmpI :=
  ⟨fun a b => (Nm.cmp_facts a.it.path b.it.path b.it.path).2.1, fun a b d => (Nm.cmp_facts a.it.path b.it.path d.it.path).2.2.2.1, fun a b d => (Nm.cmp_facts a.it.path b.it.path d.it.path).2.2.2.2⟩
def cmpT (x y : It) : Int := Nm.cmp x.path y.path
theorem cmpT_ok : Ss.Cmp cmpT :=
  ⟨fun a b => (Nm.cmp_facts a.path b.path b.path).2.1, fun a b d => (Nm.cmp_facts a.path b.path d.path).2.2.2.1, fun a b d => (Nm.cmp_facts a.path b.path d.path).2.2.2.2⟩
/-- the cells of a list with an item put in -/
theorem cells_put : ∀ (M : List Iv) (i : Nat) (y : Iv), i < M.length →
    ((((((cellsI M).set (i * 6) (.string (Nm.S y.it.path))).set (i * 6 + 1) (.int .u8 (y.it.kind : Int))).set (i * 6 + 2) (.int .i64 y.it.mode)).set (i * 6 + 3) (.int .i64 y.it.time)).set (i * 6 + 4) (.slice y.ad y.it.body.length y.cp)).set (i * 6 + 5) (.string (Nm.S y.it.to)) = cellsI (M.set i y)
  | [], i, y, h => by simp at h
  | z :: M, 0, y, h => rfl
  | z :: M, i + 1, y, h => by
    have ih := cells_put M i y (by simpa using h)
    have e : ∀ (l : List Value) (k : Nat) (v : Value), (z.vals ++ l).set ((i + 1) * 6 + k) v = z.vals ++ l.set (i * 6 + k) v := fun l k v => by
      rw [List.set_append_right _ _ (by rw [vals_len]; omega), vals_len, show (i + 1) * 6 + k - 6 = i * 6 + k by omega]
    show ((((((z.vals ++ cellsI M).set ((i + 1) * 6 + 0) _).set ((i + 1) * 6 + 1) _).set ((i + 1) * 6 + 2) _).set ((i + 1) * 6 + 3) _).set ((i + 1) * 6 + 4) _).set ((i + 1) * 6 + 5) _ = z.vals ++ cellsI (M.set i y)
    rw [e, e, e, e, e, e, ← ih]
    rfl
theorem set_at {α : Type} (A B : List α) (x y : α) : (A ++ x :: B).set A.length y = A ++ y :: B := by
  rw [List.set_append_right _ _ (Nat.le_refl _), Nat.sub_self, List.set_cons_zero]
theorem get_at {α : Type} (A B : List α) (x : α) : (A ++ x :: B)[A.length]? = some x := by
  rw [List.getElem?_append_right (Nat.le_refl _), Nat.sub_self, List.getElem?_cons_zero]
theorem take_next {α : Type} {U : List α} {j : Nat} {x : α} (h : U.drop j = x :: U.drop (j + 1)) : U.take (j + 1) = U.take j ++ [x] := by
  have : U[j]? = some x := by
    have := congrArg List.head? h
    rwa [List.head?_drop, List.head?_cons] at this
  rw [List.take_add_one, this]; rfl
theorem cut_join {α : Type} (l X : List α) (k : Nat) : l.take k ++ (l.drop k ++ X) = l ++ X := by rw [← List.append_assoc, List.take_append_drop]
end Tr
end Go.Proofs.Ytjifdoneejofiab

/- Layer 10: what is read of bytes, as a relation; the order of bytes and the sum. -/
import Derived.Test.YtkoacehgfmflmabH2
namespace Go.Proofs.Ytkoacehgfmflmab
set_option linter.unusedVariables false
set_option linter.unusedSimpArgs false

namespace Hd
theorem good_may {h : Hdr} (g : Good h) : may h = 0 := by
  have n1 : ∀ {s : B}, (0 : UInt8) ∉ s → nul s = false := fun {s} hs => by
    cases hx : nul s with
    | false => rfl
    | true =>
      obtain ⟨c, hc, he⟩ := List.any_eq_true.1 hx
      rw [eq_of_beq he] at hc
      exact absurd hc hs
  unfold may
  rw [if_neg, if_neg, if_neg, if_neg]
  · have := g.mode; have := g.size; have := g.time; omega
  · rw [n1 g.nname, n1 g.nlink, n1 g.npre]; simp
  · have := g.name; have := g.link; have := g.pre; omega
  · rintro ⟨a, b, c, d, e⟩
    rcases g.typ with h | h | h | h | h
    · exact a h
    · exact b h
    · exact c h
    · exact d h
    · exact e h
theorem sumB_set {b : B} {i : Nat} {c x : UInt8} (hl : b.length = 512) (hx : b[i]? = some x) (hi : i < 148 ∨ 156 ≤ i) : sumB (b.set i c) + x.toNat = sumB b + c.toNat := by
  rcases hi with h | h
  · have hd : (b.set i c).drop 156 = b.drop 156 := List.drop_set_of_lt (by omega)
    have ht : (b.set i c).take 148 = (b.take 148).set i c := by rw [List.take_set]
    have := sumL_set (b.take 148) i c x (by rw [List.getElem?_take, if_pos h]; exact hx)
    unfold sumB
    rw [hd, ht]
    omega
  · have ht : (b.set i c).take 148 = b.take 148 := List.take_set_of_le (by omega)
    have hd : (b.set i c).drop 156 = (b.drop 156).set (i - 156) c := by rw [List.drop_set, if_neg (by omega)]
    have := sumL_set (b.drop 156) (i - 156) c x (by rw [List.getElem?_drop, show 156 + (i - 156) = i by omega]; exact hx)
    unfold sumB
    rw [hd, ht]
    omega
/-- two bytes change places: the sum stays -/
theorem sumB_swap {b : B} {i k : Nat} {x y : UInt8} (hl : b.length = 512) (hx : b[i]? = some x) (hy : b[k]? = some y) (hi : i < 148 ∨ 156 ≤ i) (hk : k < 148 ∨ 156 ≤ k) : sumB ((b.set i y).set k x) = sumB b := by
  have h1 := sumB_set (c := y) hl hx hi
  have hy2 : (b.set i y)[k]? = some y := by
    by_cases e : i = k
    · subst e
      rw [List.getElem?_set_self (by have := (List.getElem?_eq_some_iff.1 hx).1; exact this)]
    · rw [List.getElem?_set_ne e]; exact hy
  have h2 := sumB_set (b := b.set i y) (c := x) (by rw [List.length_set]; exact hl) hy2 hk
  omega
def none : Hdr := ⟨[], 0, 0, 0, 0, [], []⟩
/-- what is read of bytes: the head, and what is wrong -/
structure Reads (b : B) (h : Hdr) (e : Nat) : Prop where
  len : b.length ≠ 512 → h = none ∧ e = 1
  word : b.length = 512 → (b.drop 257).take 8 ≠ ustar → h = none ∧ e = 100
  sum : b.length = 512 → (b.drop 257).take 8 = ustar → sealB b ≠ b → h = none ∧ e = 101
  yes : b.length = 512 → (b.drop 257).take 8 = ustar → sealB b = b → ∀ k, Good k → layB k = b → h = k ∧ e = 0
  no : b.length = 512 → (b.drop 257).take 8 = ustar → sealB b = b → (∀ k, Good k → layB k ≠ b) → h = none ∧ e = 100
theorem reads_cases (b : B) : b.length ≠ 512 ∨ (b.length = 512 ∧ (b.drop 257).take 8 ≠ ustar) ∨ (b.length = 512 ∧ (b.drop 257).take 8 = ustar ∧ sealB b ≠ b) ∨ (b.length = 512 ∧ (b.drop 257).take 8 = ustar ∧ sealB b = b ∧ ∃ k, Good k ∧ layB k = b) ∨ (b.length = 512 ∧ (b.drop 257).take 8 = ustar ∧ sealB b = b ∧ ∀ k, Good k → layB k ≠ b) := by
  by_cases h1 : b.length = 512
  · by_cases h2 : (b.drop 257).take 8 = ustar
    · by_cases h3 : sealB b = b
      · by_cases h4 : ∃ k, Good k ∧ layB k = b
        · exact .inr (.inr (.inr (.inl ⟨h1, h2, h3, h4⟩)))
        · exact .inr (.inr (.inr (.inr ⟨h1, h2, h3, fun k g e => h4 ⟨k, g, e⟩⟩)))
      · exact .inr (.inr (.inl ⟨h1, h2, h3⟩))
    · exact .inr (.inl ⟨h1, h2⟩)
  · exact .inl h1
theorem reads_unique {b : B} {h k : Hdr} {e f : Nat} (r : Reads b h e) (s : Reads b k f) : h = k ∧ e = f := by
  rcases reads_cases b with a | ⟨a, c⟩ | ⟨a, c, d⟩ | ⟨a, c, d, m, g, em⟩ | ⟨a, c, d, m⟩
  · obtain ⟨rfl, rfl⟩ := r.len a; obtain ⟨rfl, rfl⟩ := s.len a; exact ⟨rfl, rfl⟩
  · obtain ⟨rfl, rfl⟩ := r.word a c; obtain ⟨rfl, rfl⟩ := s.word a c; exact ⟨rfl, rfl⟩
  · obtain ⟨rfl, rfl⟩ := r.sum a c d; obtain ⟨rfl, rfl⟩ := s.sum a c d; exact ⟨rfl, rfl⟩
  · obtain ⟨rfl, rfl⟩ := r.yes a c d m g em; obtain ⟨rfl, rfl⟩ := s.yes a c d _ g em; exact ⟨rfl, rfl⟩
  · obtain ⟨rfl, rfl⟩ := r.no a c d m; obtain ⟨rfl, rfl⟩ := s.no a c d m; exact ⟨rfl, rfl⟩
/-- there and back -/
theorem reads_lay {h k : Hdr} {e : Nat} (g : Good h) (r : Reads (layB h) k e) : k = h ∧ e = 0 := r.yes (lay_len g) (lay_ustar g) (lay_sealed g) h g rfl
theorem lay_reads {h : Hdr} (g : Good h) : Reads (layB h) h 0 :=
  ⟨fun n => absurd (lay_len g) n, fun _ n => absurd (lay_ustar g) n, fun _ _ n => absurd (lay_sealed g) n, fun _ _ _ k gk e => ⟨lay_inj g gk e.symm, rfl⟩, fun _ _ _ n => absurd rfl (n h g)⟩
theorem reads_back {b : B} {h : Hdr} (r : Reads b h 0) : Good h ∧ layB h = b := by
  rcases reads_cases b with a | ⟨a, c⟩ | ⟨a, c, d⟩ | ⟨a, c, d, m, g, em⟩ | ⟨a, c, d, m⟩
  · exact absurd (r.len a).2 (by decide)
  · exact absurd (r.word a c).2 (by decide)
  · exact absurd (r.sum a c d).2 (by decide)
  · obtain ⟨rfl, _⟩ := r.yes a c d m g em; exact ⟨g, em⟩
  · exact absurd (r.no a c d m).2 (by decide)
theorem reads_bad {b : B} {h : Hdr} {e : Nat} (r : Reads b h e) (he : e ≠ 0) : h = none := by
  rcases reads_cases b with a | ⟨a, c⟩ | ⟨a, c, d⟩ | ⟨a, c, d, m, g, em⟩ | ⟨a, c, d, m⟩
  · exact (r.len a).1
  · exact (r.word a c).1
  · exact (r.sum a c d).1
  · exact absurd (r.yes a c d m g em).2 he
  · exact (r.no a c d m).1
theorem reads_er {b : B} {h : Hdr} {e : Nat} (r : Reads b h e) : e ≤ 101 := by
  rcases reads_cases b with a | ⟨a, c⟩ | ⟨a, c, d⟩ | ⟨a, c, d, m, g, em⟩ | ⟨a, c, d, m⟩
  · have := (r.len a).2; omega
  · have := (r.word a c).2; omega
  · have := (r.sum a c d).2; omega
  · have := (r.yes a c d m g em).2; omega
  · have := (r.no a c d m).2; omega
/-- a byte that is another is seen -/
theorem reads_set {h k : Hdr} {e i : Nat} {c x : UInt8} (g : Good h) (hx : (layB h)[i]? = some x) (hc : x ≠ c) (r : Reads ((layB h).set i c) k e) : k = none ∧ (e = 100 ∨ e = 101) := by
  have hl : ((layB h).set i c).length = 512 := by rw [List.length_set]; exact lay_len g
  have hs := seal_set (lay_sealed g) (lay_len g) hx hc
  by_cases h2 : (((layB h).set i c).drop 257).take 8 = ustar
  · obtain ⟨a, b⟩ := r.sum hl h2 hs; exact ⟨a, .inr b⟩
  · obtain ⟨a, b⟩ := r.word hl h2; exact ⟨a, .inl b⟩
/-- what is sealed is never refused for its sum -/
theorem reads_seal {b : B} {h : Hdr} {e : Nat} (hb : b.length = 512) (r : Reads (sealB b) h e) : e ≠ 101 := by
  have hs := seal_seal (b := b) (by omega)
  intro he
  subst he
  rcases reads_cases (sealB b) with a | ⟨a, c⟩ | ⟨a, c, d⟩ | ⟨a, c, d, m, g, em⟩ | ⟨a, c, d, m⟩
  · exact absurd (r.len a).2 (by decide)
  · exact absurd (r.word a c).2 (by decide)
  · exact absurd hs d
  · exact absurd (r.yes a c d m g em).2 (by decide)
  · exact absurd (r.no a c d m).2 (by decide)
end Hd
end Go.Proofs.Ytkoacehgfmflmab

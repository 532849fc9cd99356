/- What Record, Put, Get and Over answer, in words that any program's answers can be told by. -/
import Derived.Test.YtmbabfelnieagabDoorAF
namespace Go.Proofs.YtmbabfelnieagabDoor
open Go.RowKit Go.Deep
set_option linter.unusedVariables false
set_option linter.unusedSimpArgs false

namespace Px
/-- Record's answer -/
def recF (p : Pr) : B × Nat := if fits p ≠ 0 then ([], fits p) else (rcd p, 0)
theorem recF_er (p : Pr) : (recF p).2 ≤ 100 := by
  unfold recF
  have := fits_vals p
  split
  · show fits p ≤ 100; omega
  · exact Nat.zero_le _
theorem put_bad {l : List Pr} (h : (putF l).2.2 ≠ 0) : (putF l).1 = [] := by
  unfold putF at h ⊢
  split
  · rfl
  · split
    · rfl
    · rename_i h1 h2; rw [if_neg h1, if_neg h2] at h; exact absurd rfl h
theorem put_good {l : List Pr} (h : (putF l).2.2 = 0) : putF l = (all9 l, 0, 0) := put_all ((put_ok l).1 h)
theorem put_place (l : List Pr) : (putF l).2.1 ≤ 4611686018427387904 ∧ (putF l).2.1 ≤ 64 := by
  have h : ∀ (l : List Pr) (o : Option B) (i : Nat), (putE o l i).1 ≤ i + l.length := by
    intro l
    induction l with
    | nil => intro o i; exact Nat.zero_le _
    | cons p l ih =>
      intro o i
      unfold putE
      split
      · show i ≤ _; omega
      · split
        · show i ≤ _; omega
        · have := ih (some p.1) (i + 1); rw [List.length_cons]; omega
  have : (putF l).2.1 ≤ 64 := by
    unfold putF
    split
    · exact Nat.le_refl _
    · split
      · have := h l none 0
        show (putE none l 0).1 ≤ 64
        omega
      · exact Nat.zero_le _
  exact ⟨by omega, this⟩
theorem over_bad {l m : List Pr} (h : (overF l m).2 ≠ 0) : (overF l m).1 = [] := by
  unfold overF at h ⊢
  split
  · rfl
  · split
    · rfl
    · split
      · rfl
      · rename_i h1 h2 h3; rw [if_neg h1, if_neg h2, if_neg h3] at h; exact absurd rfl h
theorem over_er (l m : List Pr) : (overF l m).2 ≤ 100 := by
  unfold overF
  split
  · exact put_er l
  · split
    · exact put_er m
    · split
      · exact (by decide : (3 : Nat) ≤ 100)
      · exact Nat.zero_le _
theorem get_er : ∀ (n : Nat) (b : B) (i : Nat) (out : List Pr), b.length ≤ n → (getF b i out).2.2 ≤ 100 := by
  intro n
  induction n with
  | zero =>
    intro b i out h
    have : b = [] := List.eq_nil_of_length_eq_zero (by omega)
    subst this
    rw [getF, dif_pos rfl]; exact Nat.zero_le _
  | succ n ih =>
    intro b i out h
    by_cases hb : b = []
    · subst hb; rw [getF, dif_pos rfl]; exact Nat.zero_le _
    · rw [getF_at hb]
      split
      · exact (by decide : (3 : Nat) ≤ 100)
      · split
        · exact one_er b
        · split
          · exact (by decide : (92 : Nat) ≤ 100)
          · split
            · exact (by decide : (90 : Nat) ≤ 100)
            · rename_i h4
              refine ih _ _ _ ?_
              rw [List.length_drop]
              have := List.length_pos_iff.2 hb
              omega
theorem get_zeroN : ∀ (n : Nat) (b : B) (j : Nat) (out m : List Pr) (i : Nat), b.length ≤ n → getF b j out = (m, i, 0) → i = 0 := by
  intro n
  induction n with
  | zero =>
    intro b j out m i hb hg
    have : b = [] := List.eq_nil_of_length_eq_zero (by omega)
    subst this
    rw [getF, dif_pos rfl] at hg
    cases hg; rfl
  | succ n ih =>
    intro b j out m i hb hg
    by_cases hne : b = []
    · subst hne; rw [getF, dif_pos rfl] at hg; cases hg; rfl
    · rw [getF_at hne] at hg
      split at hg
      · cases hg
      · split at hg
        · rename_i h2
          simp only [Prod.mk.injEq] at hg
          exact absurd hg.2.2 h2
        · split at hg
          · cases hg
          · split at hg
            · cases hg
            · refine ih _ _ _ _ _ ?_ hg
              rw [List.length_drop]
              have := List.length_pos_iff.2 hne
              omega
theorem get_zero {b : B} (h : (getF b 0 []).2.2 = 0) : (getF b 0 []).2.1 = 0 := by
  obtain ⟨m, i, er, hl⟩ : ∃ m i er, getF b 0 [] = (m, i, er) := ⟨_, _, _, rfl⟩
  rw [hl] at h ⊢
  dsimp only at h ⊢
  subst h
  exact get_zeroN _ _ _ _ _ _ (Nat.le_refl _) hl
theorem get_place (b : B) : (getF b 0 []).2.1 ≤ b.length := by
  by_cases h : (getF b 0 []).2.2 = 0
  · rw [get_zero h]; exact Nat.zero_le _
  · have := (get_bad h).2.2
    omega
theorem get_len (b : B) : (getF b 0 []).1.length ≤ 64 := by
  by_cases h : (getF b 0 []).2.2 = 0
  · obtain ⟨m, i, er, hl⟩ : ∃ m i er, getF b 0 [] = (m, i, er) := ⟨_, _, _, rfl⟩
    have hz := get_zero h
    rw [hl] at h hz ⊢
    dsimp only at h hz ⊢
    subst h; subst hz
    exact (get_ok _ b 0 [] m (Nat.le_refl _) (by simp) (fun p hp => by simp at hp) List.Pairwise.nil hl).1
  · rw [(get_bad h).1]; exact Nat.zero_le _
end Px
theorem bw_of_drew {u w' : World} {q : Nat} (h : w' = u.drewN q) : Bw u w' := by rw [h]; exact Bw.drewN u q
/-- a written list of pairs -/
theorem prs_new (W : World) (cs : Array Value) (L : List Px.Pr) (h : cs.toList = Px.cellsPr L) : PrsAt (W.alloc (.cells cs 23)) (some ⟨W.heap.size, 0, none⟩) L := by
  refine .inr ⟨W.heap.size, 0, rfl, fun i p hp => ?_⟩
  have hg := World.alloc_heap_new W (.cells cs 23)
  have hc := Px.cellsPr_get L i p hp
  rw [Nat.zero_add, cell_of_row _ _ _ cs _ _ hg, cell_of_row _ _ _ cs _ _ hg, ← Array.getElem?_toList, ← Array.getElem?_toList, h]
  exact hc
/-- a row of bytes as a list -/
theorem rowat_list {w : World} {A : Option Addr} {n : Nat} {f : Nat → Int} (h : RowAt w A n f) : ∃ b : Px.B, b.length = n ∧ RowAt w A b.length (Px.rowF b) := by
  refine ⟨(List.range n).map fun i => UInt8.ofNat (f i).toNat, by simp, ?_⟩
  have hl : ((List.range n).map fun i => UInt8.ofNat (f i).toNat).length = n := by simp
  rw [hl]
  rcases h.1 with h0 | ⟨b, off, h1, h2⟩
  · exact ⟨.inl h0, Px.rowF_bd _⟩
  · refine ⟨.inr ⟨b, off, h1, fun i hi => ?_⟩, Px.rowF_bd _⟩
    rw [h2 i hi, Px.rowF_at (c := UInt8.ofNat (f i).toNat) (by rw [List.getElem?_map, List.getElem?_range hi]; rfl)]
    have hb := h.2 i
    rw [UInt8.toNat_ofNat']
    congr 2
    omega
theorem RowAt.front {w : World} {A : Option Addr} {a b : Px.B} (h : RowAt w A (a ++ b).length (Px.rowF (a ++ b))) : RowAt w A a.length (Px.rowF a) := by
  refine ⟨?_, Px.rowF_bd _⟩
  rcases h.1 with h0 | ⟨g, off, h1, h2⟩
  · rw [List.length_append] at h0; exact .inl (by omega)
  · refine .inr ⟨g, off, h1, fun i hi => ?_⟩
    rw [h2 i (by rw [List.length_append]; omega), Px.rowF_at (List.getElem?_eq_getElem hi), Px.rowF_at (c := a[i]) (by rw [List.getElem?_append_left hi, List.getElem?_eq_getElem hi])]
theorem rowat_nil (w : World) (A : Option Addr) : RowAt w A ([] : Px.B).length (Px.rowF []) := ⟨.inl rfl, Px.rowF_bd _⟩
/-- bytes that a call answers -/
def RowIs (w : World) (v : Value) (b : Px.B) : Prop := ∃ A c, v = .slice A b.length c ∧ b.length ≤ c ∧ RowAt w A b.length (Px.rowF b)
/-- pairs that a call answers -/
def PrsIs (w : World) (v : Value) (L : List Px.Pr) : Prop := ∃ A c, v = .slice A L.length c ∧ L.length ≤ c ∧ PrsAt w A L
theorem RowIs.keep {w w' : World} {v : Value} {b : Px.B} (h : RowIs w v b) (k : Bw w w') : RowIs w' v b := by
  obtain ⟨A, c, h1, h2, h3⟩ := h
  exact ⟨A, c, h1, h2, h3.keep k⟩
theorem PrsIs.keep {w w' : World} {v : Value} {L : List Px.Pr} (h : PrsIs w v L) (k : Bw w w') : PrsIs w' v L := by
  obtain ⟨A, c, h1, h2, h3⟩ := h
  exact ⟨A, c, h1, h2, h3.keep k⟩
theorem rowis_own {w : World} {base : Nat} {v : Value} {b : Px.B} (h : w.ownsRow base 5 1 v b.length (Px.cellsB b)) : RowIs w v b := by
  rw [← Px.cellsU_rowF] at h
  obtain ⟨A, cap, h1, h2, -, h3, -⟩ := row_of_own (Px.rowF_bd b) h
  exact ⟨A, cap, h1, h2, h3⟩
theorem prsis_own {w : World} {base : Nat} {v : Value} {L : List Px.Pr} (h : w.ownsRow base 23 2 v L.length (Px.cellsPr L)) : PrsIs w v L := by
  obtain ⟨A, cap, h1, h2, h3, -⟩ := prs_of_own h
  exact ⟨A, cap, h1, h2, h3⟩
theorem rowis_none (w : World) : RowIs w (.slice none 0 0) [] := ⟨none, 0, rfl, Nat.le_refl _, rowat_nil _ _⟩
theorem prsis_none (w : World) : PrsIs w (.slice none 0 0) [] := ⟨none, 0, rfl, Nat.le_refl _, .inl rfl⟩
def RecSays (p : Px.Pr) (e : Ending) (w' : World) : Prop := ∃ v, e = .returned (.tuple #[v, .int .i64 ((Px.recF p).2 : Int)]) ∧ RowIs w' v (Px.recF p).1
def PutSays (L : List Px.Pr) (e : Ending) (w' : World) : Prop := ∃ v, e = .returned (.tuple #[v, .int .i64 ((Px.putF L).2.1 : Int), .int .i64 ((Px.putF L).2.2 : Int)]) ∧ RowIs w' v (Px.putF L).1
def GetSays (b : Px.B) (e : Ending) (w' : World) : Prop := ∃ v, e = .returned (.tuple #[v, .int .i64 ((Px.getF b 0 []).2.1 : Int), .int .i64 ((Px.getF b 0 []).2.2 : Int)]) ∧ PrsIs w' v (Px.getF b 0 []).1
def OverSays (L M : List Px.Pr) (e : Ending) (w' : World) : Prop := ∃ v, e = .returned (.tuple #[v, .int .i64 ((Px.overF L M).2 : Int)]) ∧ PrsIs w' v (Px.overF L M).1
end Go.Proofs.YtmbabfelnieagabDoor

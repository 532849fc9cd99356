/- Texts of mine, put together. -/
import Derived.Test.YtldkhbkgmiicbabGreatDoorBu2
import Derived.Laws.Cover1
import Derived.BigRegion
import Derived.RangeFuncNested
import Derived.RangeFuncBound
import Derived.RangeFuncCalls
import Derived.RangeFuncLeaves
import Derived.Shelf.Abstract
import Derived.Shelf.RegionOpen
import Derived.OwnWalkIn
import Derived.TacticsInMore
import Derived.LoopNIn
import Derived.LoopIn
import Derived.RangeFuncFrom

/- The document's own Nul, part and Check. -/
namespace Go.Proofs.YtldkhbkgmiicbabGreatDoor
open Go.RowKit Go.Deep
set_option linter.unusedVariables false
set_option linter.unusedSimpArgs false

namespace Nm
/-- where the first byte 0 is -/
def nul : B → Option Nat
  | [] => none
  | c :: l => if c = 0 then some 0 else (nul l).map (· + 1)
theorem nul_lt : ∀ (l : B) (i : Nat), nul l = some i → i < l.length
  | [], i, h => by simp [nul] at h
  | c :: l, i, h => by
    unfold nul at h
    by_cases h0 : c = 0
    · rw [if_pos h0] at h; cases h; simp
    · rw [if_neg h0] at h
      cases e : nul l with
      | none => rw [e] at h; cases h
      | some j =>
        rw [e] at h
        have := nul_lt l j e
        simp at h
        subst h
        simpa using this
/-- what Nul answers -/
def nulI (l : B) : Int := match nul l with | some n => (n : Int) | none => -1
/-- the first thing that is wrong with a piece, and where in it -/
def partE (p : B) : Nat × Int := if p = [] then (0, 80) else if 120 < p.length then (0, 2) else if p = [46] ∨ p = [46, 46] then (0, 81) else match nul p with | some n => (n, 82) | none => (0, 0)
def chk : Nat → List B → Int × Int
  | _, [] => (0, 0)
  | k, p :: ps => if (partE p).2 = 0 then chk (k + p.length + 1) ps else (((k + (partE p).1 : Nat) : Int), (partE p).2)
theorem chk_all : ∀ (k : Nat) (ps : List B), (∀ p ∈ ps, (partE p).2 = 0) → chk k ps = (0, 0)
  | _, [], _ => rfl
  | k, p :: ps, h => by unfold chk; rw [if_pos (h p (by simp))]; exact chk_all _ ps (fun q hq => h q (List.mem_cons_of_mem _ hq))
theorem chk_at : ∀ (k : Nat) (ps : List B) (j : Nat) (h : j < ps.length), (∀ i (hi : i < ps.length), i < j → (partE ps[i]).2 = 0) → (partE ps[j]).2 ≠ 0 → chk k ps = (((k + tot (ps.take j) + (partE ps[j]).1 : Nat) : Int), (partE ps[j]).2)
  | k, p :: ps, 0, h, _, hn => by
    unfold chk
    rw [if_neg (by simpa using hn)]
    simp [tot]
  | k, p :: ps, j + 1, h, h0, hn => by
    have hp : (partE p).2 = 0 := h0 0 (by simp) (by omega)
    unfold chk
    rw [if_pos hp, chk_at _ ps j (by simpa using h) (fun i hi hij => by have := h0 (i + 1) (by simpa using hi) (by omega); simpa using this) (by simpa using hn)]
    simp only [List.take_succ_cons, tot, List.getElem_cons_succ]
    congr 2
    omega
/-- the first thing that is wrong with a text, and where -/
def check (l : B) : Int × Int := if 400 < l.length then (0, 2) else chk 0 (pieces l)
end Nm

end Go.Proofs.YtldkhbkgmiicbabGreatDoor

/- The document's own Check. -/
namespace Go.Proofs.YtldkhbkgmiicbabGreatDoor
open Go.RowKit Go.Deep
set_option linter.unusedVariables false
set_option linter.unusedSimpArgs false

theorem piece_len {l p : Nm.B} (h : p ∈ Nm.pieces l) : p.length ≤ l.length := by
  have h1 : ∀ ps : List Nm.B, p ∈ ps → p.length + 1 ≤ Nm.tot ps := fun ps => by
    induction ps with
    | nil => intro h; cases h
    | cons q r ih =>
      intro h
      rcases List.mem_cons.1 h with rfl | h
      · unfold Nm.tot; omega
      · have := ih h; unfold Nm.tot; omega
  have h2 := h1 _ h
  rw [Nm.tot_joined _ (Nm.pieces_ne l), Nm.joined_pieces] at h2
  omega
theorem partE_bd {p : Nm.B} (h : p.length ≤ 400) : (Nm.partE p).1 ≤ 400 ∧ 0 ≤ (Nm.partE p).2 ∧ (Nm.partE p).2 ≤ 100 := by
  unfold Nm.partE
  split
  · decide
  · split
    · decide
    · split
      · decide
      · cases e : Nm.nul p with
        | none => exact ⟨by show 0 ≤ 400; omega, by show (0 : Int) ≤ 0; decide, by show (0 : Int) ≤ 100; decide⟩
        | some n => have := Nm.nul_lt p n e; exact ⟨by show n ≤ 400; omega, by show (0 : Int) ≤ 82; decide, by show (82 : Int) ≤ 100; decide⟩
end Go.Proofs.YtldkhbkgmiicbabGreatDoor

/- The order of texts; the document's own Compare and Up. -/
namespace Go.Proofs.YtldkhbkgmiicbabGreatDoor
open Go.RowKit Go.Deep
set_option linter.unusedVariables false
set_option linter.unusedSimpArgs false

namespace Nm
abbrev less (a b : B) : Bool := Op.bytesLess a b
theorem less_nil (a : B) : less a [] = false := by cases a <;> rfl
theorem less_cons (a b : UInt8) (x y : B) : less (a :: x) (b :: y) = (decide (a < b) || (a == b && less x y)) := rfl
theorem less_irr : ∀ a : B, less a a = false
  | [] => rfl
  | c :: a => by
    rw [less_cons, less_irr a]
    simp [UInt8.lt_irrefl]
theorem less_tot : ∀ a b : B, less a b = false → less b a = false → a = b
  | [], [], _, _ => rfl
  | [], c :: b, h, _ => by simp [less, Op.bytesLess] at h
  | c :: a, [], _, h => by simp [less, Op.bytesLess] at h
  | c :: a, d :: b, h, k => by
    rw [less_cons] at h k
    simp only [Bool.or_eq_false_iff, decide_eq_false_iff_not, Bool.and_eq_false_imp, beq_iff_eq] at h k
    have e : c = d := UInt8.le_antisymm (UInt8.not_lt.1 k.1) (UInt8.not_lt.1 h.1)
    subst e
    rw [less_tot a b (h.2 rfl) (k.2 rfl)]
theorem less_trans : ∀ a b c : B, less a b = true → less b c = true → less a c = true
  | _, _, [], _, h => by rw [less_nil] at h; cases h
  | _, [], _ :: _, h, _ => by rw [less_nil] at h; cases h
  | [], _ :: _, _ :: _, _, _ => rfl
  | x :: a, y :: b, z :: c, h, k => by
    rw [less_cons] at h k ⊢
    simp only [Bool.or_eq_true, decide_eq_true_eq, Bool.and_eq_true, beq_iff_eq] at h k ⊢
    rcases h with h | ⟨rfl, h⟩
    · rcases k with k | ⟨rfl, k⟩
      · exact Or.inl (UInt8.lt_trans h k)
      · exact Or.inl h
    · rcases k with k | ⟨rfl, k⟩
      · exact Or.inl k
      · exact Or.inr ⟨rfl, less_trans a b c h k⟩
theorem less_asym {a b : B} (h : less a b = true) : less b a = false := by
  cases k : less b a with
  | false => rfl
  | true => have := less_trans a b a h k; rw [less_irr] at this; cases this
/-- the order of lists of pieces -/
def cmpP : List B → List B → Int
  | [], [] => 0
  | [], _ :: _ => -1
  | _ :: _, [] => 1
  | x :: xs, y :: ys => if less x y = true then -1 else if less y x = true then 1 else cmpP xs ys
/-- the order of texts -/
def cmp (a b : B) : Int := cmpP (pieces a) (pieces b)
theorem cmpP_less : ∀ (xs ys : List B) (k : Nat) (hx : k < xs.length) (hy : k < ys.length), (∀ i (h1 : i < xs.length) (h2 : i < ys.length), i < k → xs[i] = ys[i]) → less xs[k] ys[k] = true → cmpP xs ys = -1
  | x :: xs, y :: ys, 0, hx, hy, _, h => by unfold cmpP; rw [if_pos (by simpa using h)]
  | x :: xs, y :: ys, k + 1, hx, hy, ha, h => by
    have e : x = y := ha 0 (by simp) (by simp) (by omega)
    subst e
    unfold cmpP
    rw [less_irr, if_neg (by simp), if_neg (by simp)]
    exact cmpP_less xs ys k (by simpa using hx) (by simpa using hy) (fun i h1 h2 hk => by have := ha (i + 1) (by simpa using h1) (by simpa using h2) (by omega); simpa using this) (by simpa using h)
theorem cmpP_more : ∀ (xs ys : List B) (k : Nat) (hx : k < xs.length) (hy : k < ys.length), (∀ i (h1 : i < xs.length) (h2 : i < ys.length), i < k → xs[i] = ys[i]) → less ys[k] xs[k] = true → cmpP xs ys = 1
  | x :: xs, y :: ys, 0, hx, hy, _, h => by
    have h' : less y x = true := by simpa using h
    unfold cmpP; rw [less_asym h', if_neg (by simp), if_pos h']
  | x :: xs, y :: ys, k + 1, hx, hy, ha, h => by
    have e : x = y := ha 0 (by simp) (by simp) (by omega)
    subst e
    unfold cmpP
    rw [less_irr, if_neg (by simp), if_neg (by simp)]
    exact cmpP_more xs ys k (by simpa using hx) (by simpa using hy) (fun i h1 h2 hk => by have := ha (i + 1) (by simpa using h1) (by simpa using h2) (by omega); simpa using this) (by simpa using h)
theorem cmpP_end : ∀ (xs ys : List B), (∀ i (h1 : i < xs.length) (h2 : i < ys.length), xs[i] = ys[i]) → cmpP xs ys = if xs.length < ys.length then -1 else if ys.length < xs.length then 1 else 0
  | [], [], _ => rfl
  | [], _ :: _, _ => by simp [cmpP]
  | _ :: _, [], _ => by simp [cmpP]
  | x :: xs, y :: ys, ha => by
    have e : x = y := ha 0 (by simp) (by simp)
    subst e
    unfold cmpP
    rw [less_irr, if_neg (by simp), if_neg (by simp), cmpP_end xs ys (fun i h1 h2 => by have := ha (i + 1) (by simpa using h1) (by simpa using h2); simpa using this)]
    simp only [List.length_cons, Nat.add_lt_add_iff_right]
end Nm

namespace Nm
/-- what stands above a text -/
def up (l : B) : B := joined (pieces l).dropLast
theorem joined_append : ∀ (ps : List B) (p : B), ps ≠ [] → joined (ps ++ [p]) = joined ps ++ 47 :: p
  | [], p, h => absurd rfl h
  | [q], p, _ => rfl
  | q :: r :: t, p, _ => by
    show q ++ 47 :: joined ((r :: t) ++ [p]) = (q ++ 47 :: joined (r :: t)) ++ 47 :: p
    rw [joined_append (r :: t) p (by simp)]; simp
theorem up_of {l : B} {ps : List B} {p : B} (h : pieces l = ps ++ [p]) : up l = if tot ps = 0 then [] else l.take (tot ps - 1) := by
  unfold up
  rw [h, List.dropLast_concat]
  by_cases hp : ps = []
  · subst hp; rfl
  · have e := joined_append ps p hp
    rw [← h, joined_pieces] at e
    have ht := tot_joined ps hp
    rw [if_neg (by omega), ht, Nat.add_sub_cancel, e, List.take_left]
end Nm
end Go.Proofs.YtldkhbkgmiicbabGreatDoor

/- The document's own Beneath and Split. -/
namespace Go.Proofs.YtldkhbkgmiicbabGreatDoor
open Go.RowKit Go.Deep
set_option linter.unusedVariables false
set_option linter.unusedSimpArgs false

namespace Nm
theorem check_bd (l : B) : 0 ≤ (check l).1 ∧ (check l).1 ≤ 1000 ∧ 0 ≤ (check l).2 ∧ (check l).2 ≤ 100 := by
  unfold check
  split
  · decide
  · rename_i h
    have hp : ∀ p ∈ pieces l, p.length ≤ 400 := fun p hp => by have := piece_len hp; omega
    have ht : tot (pieces l) ≤ 401 := by rw [tot_joined _ (pieces_ne l), joined_pieces]; omega
    have : ∀ (ps : List B) (k : Nat), (∀ p ∈ ps, p.length ≤ 400) → k + tot ps ≤ 401 → 0 ≤ (chk k ps).1 ∧ (chk k ps).1 ≤ 1000 ∧ 0 ≤ (chk k ps).2 ∧ (chk k ps).2 ≤ 100 := by
      intro ps
      induction ps with
      | nil => intro k _ _; unfold chk; decide
      | cons p ps ih =>
        intro k h1 h2
        unfold chk
        unfold tot at h2
        have hb := partE_bd (h1 p (by simp))
        split
        · exact ih _ (fun q hq => h1 q (List.mem_cons_of_mem _ hq)) (by omega)
        · dsimp only; omega
    exact this _ 0 hp (by omega)
/-- all of one list are the first of another one, which has more -/
def Front (xs ys : List B) : Prop := xs.length < ys.length ∧ ∀ i (h1 : i < xs.length) (h2 : i < ys.length), xs[i] = ys[i]
def Beneath (root p : B) : Prop := (check p).2 = 0 ∧ (root = [] ∨ ((check root).2 = 0 ∧ Front (pieces root) (pieces p)))
/-- a stroke at which a path can be cut -/
def CutAt (l : B) (i : Nat) : Prop := l[i]? = some 47 ∧ i ≤ 155 ∧ l.length - i - 1 ≤ 100
/-- what Split answers -/
structure SplitSays (l a b : B) (er : Int) : Prop where
  bad : (check l).2 ≠ 0 → a = [] ∧ b = [] ∧ er = (check l).2
  short : (check l).2 = 0 → l.length ≤ 100 → a = [] ∧ b = l ∧ er = 0
  cut : (check l).2 = 0 → 100 < l.length → ∀ i, CutAt l i → (∀ j, i < j → ¬ CutAt l j) → a = l.take i ∧ b = l.drop (i + 1) ∧ er = 0
  long : (check l).2 = 0 → 100 < l.length → (∀ j, ¬ CutAt l j) → a = [] ∧ b = [] ∧ er = 2
theorem cut_lt {l : B} {i : Nat} (h : CutAt l i) : i < l.length := (List.getElem?_eq_some_iff.1 h.1).1
theorem last_cut (l : B) : (∀ j, ¬ CutAt l j) ∨ ∃ i, CutAt l i ∧ ∀ j, i < j → ¬ CutAt l j := by
  have : ∀ n, (∀ j, j < n → ¬ CutAt l j) ∨ ∃ i, i < n ∧ CutAt l i ∧ ∀ j, i < j → j < n → ¬ CutAt l j := by
    intro n
    induction n with
    | zero => exact Or.inl (fun j hj => by omega)
    | succ n ih =>
      by_cases h : CutAt l n
      · exact Or.inr ⟨n, by omega, h, fun j h1 h2 => by omega⟩
      · rcases ih with ih | ⟨i, h1, h2, h3⟩
        · exact Or.inl (fun j hj => by rcases Nat.lt_or_ge j n with k | k; exact ih j k; rw [show j = n by omega]; exact h)
        · exact Or.inr ⟨i, by omega, h2, fun j k1 k2 => by rcases Nat.lt_or_ge j n with k | k; exact h3 j k1 k; rw [show j = n by omega]; exact h⟩
  rcases this l.length with h | ⟨i, h1, h2, h3⟩
  · exact Or.inl (fun j hj => h j (cut_lt hj) hj)
  · exact Or.inr ⟨i, h2, fun j k hj => h3 j k (cut_lt hj) hj⟩
theorem split_unique {l a b a' b' : B} {e e' : Int} (h : SplitSays l a b e) (k : SplitSays l a' b' e') : a = a' ∧ b = b' ∧ e = e' := by
  by_cases h1 : (check l).2 = 0
  · by_cases h2 : l.length ≤ 100
    · obtain ⟨rfl, rfl, rfl⟩ := h.short h1 h2
      obtain ⟨rfl, rfl, rfl⟩ := k.short h1 h2
      exact ⟨rfl, rfl, rfl⟩
    · rcases last_cut l with hc | ⟨i, hi, hl⟩
      · obtain ⟨rfl, rfl, rfl⟩ := h.long h1 (by omega) hc
        obtain ⟨rfl, rfl, rfl⟩ := k.long h1 (by omega) hc
        exact ⟨rfl, rfl, rfl⟩
      · obtain ⟨rfl, rfl, rfl⟩ := h.cut h1 (by omega) i hi hl
        obtain ⟨rfl, rfl, rfl⟩ := k.cut h1 (by omega) i hi hl
        exact ⟨rfl, rfl, rfl⟩
  · obtain ⟨rfl, rfl, rfl⟩ := h.bad h1
    obtain ⟨rfl, rfl, rfl⟩ := k.bad h1
    exact ⟨rfl, rfl, rfl⟩
end Nm
/-- a call answers whether something holds -/
def TellsN (e : Ending) (P : Prop) : Prop := ∃ x : Bool, e = .returned (.bool x) ∧ (x = true ↔ P)
theorem TellsN.no {P : Prop} (h : ¬ P) : TellsN (.returned (.bool false)) P := ⟨false, rfl, ⟨fun e => Bool.noConfusion e, fun e => absurd e h⟩⟩
theorem TellsN.yes {P : Prop} (h : P) : TellsN (.returned (.bool true)) P := ⟨true, rfl, ⟨fun _ => h, fun _ => rfl⟩⟩

end Go.Proofs.YtldkhbkgmiicbabGreatDoor

/- The document's own Split and Joined. -/
namespace Go.Proofs.YtldkhbkgmiicbabGreatDoor
open Go.RowKit Go.Deep
set_option linter.unusedVariables false
set_option linter.unusedSimpArgs false

/-- what Split answers, as a call's end -/
def SplitEnds (l : Nm.B) (e : Ending) : Prop := ∃ a b er, e = .returned (.tuple #[.string (Nm.S a), .string (Nm.S b), .int .i64 er]) ∧ Nm.SplitSays l a b er
/-- a list of texts in memory -/
def StrsAt (w : World) (A : Option Addr) (n : Nat) (T : Nat → ByteArray) : Prop := n = 0 ∨ ∃ b off, A = some ⟨b, off, none⟩ ∧ ∀ i, i < n → w.cell? ⟨b, off + i, none⟩ = some (.string (T i))
theorem StrsAt.keep {w w' : World} {A : Option Addr} {n : Nat} {T : Nat → ByteArray} (h : StrsAt w A n T) (g : Bw w w') : StrsAt w' A n T := by
  rcases h with h0 | ⟨b, off, hA, hc⟩
  · exact Or.inl h0
  · refine Or.inr ⟨b, off, hA, fun i hi => ?_⟩
    have := hc i hi
    rw [g.cell (p := ⟨b, off + i, none⟩) (block_lt_of_cell this)]
    exact this
theorem StrsAt.at {w : World} {A : Option Addr} {n : Nat} {T : Nat → ByteArray} (h : StrsAt w A n T) {k : Nat} (hk : k < n) : ∃ b off, A = some ⟨b, off, none⟩ ∧ ∀ i, i < n → w.cell? ⟨b, off + i, none⟩ = some (.string (T i)) := by
  rcases h with h0 | h
  · omega
  · exact h
/-- the parts, as lists of bytes -/
def partsL (T : Nat → ByteArray) (n : Nat) : List Nm.B := (List.range n).map fun i => (T i).toList
end Go.Proofs.YtldkhbkgmiicbabGreatDoor

/- The document's own Join. -/
namespace Go.Proofs.YtldkhbkgmiicbabGreatDoor
open Go.RowKit Go.Deep
set_option linter.unusedVariables false
set_option linter.unusedSimpArgs false

namespace Nm
/-- what Join answers -/
def joinE (ps : List B) : B × Int := if ps = [] then ([], 4) else if ∃ p ∈ ps, (47 : UInt8) ∈ p then ([], 1) else if (check (joined ps)).2 = 0 then (joined ps, 0) else ([], (check (joined ps)).2)
end Nm
end Go.Proofs.YtldkhbkgmiicbabGreatDoor

/- The document's own Lead. -/
namespace Go.Proofs.YtldkhbkgmiicbabGreatDoor
open Go.RowKit Go.Deep
set_option linter.unusedVariables false
set_option linter.unusedSimpArgs false

namespace Nm
/-- a link's way -/
def leadF : List B → List B → Option (List B)
  | way, [] => some way
  | way, s :: ss => if s = [] ∨ s = [46] then leadF way ss else if s ≠ [46, 46] then leadF (way ++ [s]) ss else if way = [] then none else leadF way.dropLast ss
/-- where a link leads -/
def lead (from_ to : B) : B × Int := if (check from_).2 ≠ 0 then ([], (check from_).2) else if to = [] then ([], 80) else if 400 < to.length then ([], 2) else if nul to ≠ none then ([], 82) else if to.head? = some 47 then ([], 83) else
  match leadF (pieces from_).dropLast (pieces to) with | none => ([], 83) | some way => (joined way, 0)
theorem lead_bd (a b : B) : 0 ≤ (lead a b).2 ∧ (lead a b).2 ≤ 100 := by
  unfold lead
  split
  · have := check_bd a; dsimp only; omega
  · repeat (split; · decide)
    show (0 : Int) ≤ 0 ∧ (0 : Int) ≤ 100
    decide
/-- the cells of a list of texts -/
def cellsS (ps : List B) : List Value := ps.map fun p => .string (S p)
end Nm
end Go.Proofs.YtldkhbkgmiicbabGreatDoor

/- A range over a text's pieces: what is not the program's own: all the pieces with their places, a list's next, a function beside nil, what stays beneath a range. -/
namespace Go.Proofs.YtldkhbkgmiicbabGreatDoor
open Go.RowKit Go.Deep Go.Shelf
set_option linter.unusedVariables false
set_option linter.unusedSimpArgs false

namespace Nm
/-- the pieces of a text, with their places -/
def all (l : B) : List (Nat × B) := ats 0 (pieces l)
theorem ats_snoc (out : List B) (p : B) : ats 0 (out ++ [p]) = ats 0 out ++ [(tot out, p)] := by rw [ats_append, Nat.zero_add]; rfl
end Nm
/-- what a round of a range over pieces is handed -/
def encP (x : Nat × Nm.B) : Array Value := #[.int .i64 (x.1 : Int), .string (Nm.S x.2)]
namespace Nm
end Nm
theorem new_cell8 (W : World) (v : Value) (t : TypeId) : (W.alloc (.cells #[v] t)).cell? ⟨W.heap.size, 0, none⟩ = some v ∧ (W.alloc (.cells #[v] t)).frozen? ⟨W.heap.size, 0, none⟩ = false := by
  constructor
  · simp [go_sem]
  · simp [go_sem]
theorem kept_cell8 {W : World} {a : Addr} {v : Value} (o : Obj) (h : W.cell? a = some v) : (W.alloc o).cell? a = some v := cell_kept h (World.grownBy_alloc W o none) (fun r e => by cases e)
theorem kept_froz8 {W : World} {a : Addr} {v : Value} (o : Obj) (h : W.cell? a = some v) (hf : W.frozen? a = false) : (W.alloc o).frozen? a = false := (frozen_kept h (World.grownBy_alloc W o none) (fun r e => by cases e)).trans hf
def isFunc (t : Option TypeDesc) : Bool := match t with | some (.func ..) => true | _ => false
end Go.Proofs.YtldkhbkgmiicbabGreatDoor

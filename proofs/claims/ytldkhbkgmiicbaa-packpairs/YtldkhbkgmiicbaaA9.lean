/- The document's own Put (of tabularyref09). -/
import Derived.Test.YtldkhbkgmiicbaaA8
namespace Go.Proofs.Ytldkhbkgmiicbaa
open Go.RowKit Go.Deep
set_option linter.unusedVariables false
set_option linter.unusedSimpArgs false

namespace Px
/-- the cells of a row of bytes -/
def cellsB (l : B) : List Value := l.map fun c => .int .u8 (c.toNat : Int)
theorem cellsB_append (a b : B) : cellsB (a ++ b) = cellsB a ++ cellsB b := List.map_append
theorem cellsB_len (l : B) : (cellsB l).length = l.length := List.length_map _
theorem cellsU_rowF (l : B) : cellsU (rowF l) l.length = cellsB l := by
  unfold cellsU cellsB
  refine List.ext_getElem? fun i => ?_
  rw [List.getElem?_map, List.getElem?_map]
  rcases Nat.lt_or_ge i l.length with h | h
  · rw [List.getElem?_range h, List.getElem?_eq_getElem h]
    show some (Value.int .u8 (rowF l i)) = _
    unfold rowF
    rw [List.getD_eq_getElem?_getD, List.getElem?_eq_getElem h]; rfl
  · rw [List.getElem?_eq_none (by simpa using h), List.getElem?_eq_none h]; rfl
def lastK (l : List Pr) (k : Nat) : Option B := if k = 0 then none else (l[k - 1]?).map (·.1)
theorem putE_at {l : List Pr} {k : Nat} {p : Pr} (hp : l[k]? = some p) : putE (lastK l k) (l.drop k) k = if fits p ≠ 0 then (k, fits p) else if behind (lastK l k) p.1 = false then (k, 92) else putE (lastK l (k + 1)) (l.drop (k + 1)) (k + 1) := by
  obtain ⟨hk, e⟩ := List.getElem?_eq_some_iff.1 hp
  rw [List.drop_eq_getElem_cons hk, e]
  have h1 : lastK l (k + 1) = some p.1 := by
    unfold lastK
    rw [if_neg (by omega), Nat.add_sub_cancel, hp]; rfl
  rw [h1]
  rfl
theorem all9_take {l : List Pr} {k : Nat} {p : Pr} (hp : l[k]? = some p) : all9 (l.take (k + 1)) = all9 (l.take k) ++ rcd p := by
  rw [List.take_add_one, hp, all9_append]
  simp [all9]
theorem rcd_bd {p : Pr} (h : fits p = 0) : (rcd p).length ≤ 1064 := by rw [rcd_len]; exact psize_le h
theorem all9_bd : ∀ (l : List Pr), (∀ p ∈ l, fits p = 0) → (all9 l).length ≤ 1064 * l.length
  | [], _ => Nat.zero_le _
  | p :: l, h => by
    have h1 := rcd_bd (h p (by simp))
    have h2 := all9_bd l (fun q hq => h q (List.mem_cons_of_mem _ hq))
    rw [all9, List.length_append, List.length_cons]
    omega
end Px
/-- what Put answers -/
def PutEnds (base : Nat) (L : List Px.Pr) (e : Ending) (w' : World) : Prop :=
  ((Px.putF L).2.2 ≠ 0 ∧ e = .returned (.tuple #[.slice none 0 0, .int .i64 ((Px.putF L).2.1 : Int), .int .i64 ((Px.putF L).2.2 : Int)])) ∨
  ((Px.putF L).2.2 = 0 ∧ ∃ v, e = .returned (.tuple #[v, .int .i64 0, .int .i64 0]) ∧ w'.ownsRow base 5 1 v (Px.all9 L).length (Px.cellsB (Px.all9 L)))
theorem put_ends_bad {base : Nat} {L : List Px.Pr} {i er : Nat} {w' : World} (hn : L.length ≤ 64) (h : Px.putE none L 0 = (i, er)) (he : er ≠ 0) : PutEnds base L (.returned (.tuple #[.slice none 0 0, .int .i64 (i : Int), .int .i64 (er : Int)])) w' := by
  have e : Px.putF L = ([], i, er) := by unfold Px.putF; rw [if_neg (by omega), h, if_pos he]
  refine .inl ⟨by rw [e]; exact he, by rw [e]⟩
theorem put_ends_ok {base : Nat} {L : List Px.Pr} {v : Value} {w' : World} (hn : L.length ≤ 64) (h : Px.putE none L 0 = (0, 0)) (ho : w'.ownsRow base 5 1 v (Px.all9 L).length (Px.cellsB (Px.all9 L))) : PutEnds base L (.returned (.tuple #[v, .int .i64 0, .int .i64 0])) w' := by
  have e : Px.putF L = (Px.all9 L, 0, 0) := by unfold Px.putF; rw [if_neg (by omega), h, if_neg (by simp)]
  exact .inr ⟨by rw [e], v, rfl, ho⟩
end Go.Proofs.Ytldkhbkgmiicbaa

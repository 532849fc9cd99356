/- Texts of mine, put together. -/
import Derived.Test.YtldkhbkgmiicbabGreatDoorBu13
import Derived.Laws.StructEq
import Derived.Laws.AppendOwnNone

/- The document's own Record (of tabularyref09). -/
namespace Go.Proofs.YtldkhbkgmiicbabGreatDoor
open Go.RowKit Go.Deep
set_option linter.unusedVariables false

end Go.Proofs.YtldkhbkgmiicbabGreatDoor

/- Lists of pairs in memory; the document's own Find (of tabularyref09). -/
namespace Go.Proofs.YtldkhbkgmiicbabGreatDoor
open Go.RowKit Go.Deep
set_option linter.unusedVariables false
set_option linter.unusedSimpArgs false

/-- a list of pairs in memory -/
def PrsAt (w : World) (A : Option Addr) (L : List Px.Pr) : Prop := L = [] ∨ ∃ b off, A = some ⟨b, off, none⟩ ∧ ∀ (i : Nat) (p : Px.Pr), L[i]? = some p → w.cell? ⟨b, off + i * 2, none⟩ = some (.string (Nm.S p.1)) ∧ w.cell? ⟨b, off + i * 2 + 1, none⟩ = some (.string (Nm.S p.2))
theorem PrsAt.keep {w w' : World} {A : Option Addr} {L : List Px.Pr} (h : PrsAt w A L) (g : Bw w w') : PrsAt w' A L := by
  rcases h with h | ⟨b, off, h1, h2⟩
  · exact .inl h
  · refine .inr ⟨b, off, h1, fun i p hp => ?_⟩
    obtain ⟨h3, h4⟩ := h2 i p hp
    have hb := block_lt_of_cell h3
    rw [g.cell (p := ⟨b, off + i * 2, none⟩) hb, g.cell (p := ⟨b, off + i * 2 + 1, none⟩) hb]
    exact ⟨h3, h4⟩
theorem PrsAt.at {w : World} {A : Option Addr} {L : List Px.Pr} (h : PrsAt w A L) (hne : 0 < L.length) : ∃ b off, A = some ⟨b, off, none⟩ ∧ ∀ (i : Nat) (p : Px.Pr), L[i]? = some p → w.cell? ⟨b, off + i * 2, none⟩ = some (.string (Nm.S p.1)) ∧ w.cell? ⟨b, off + i * 2 + 1, none⟩ = some (.string (Nm.S p.2)) := by
  rcases h with h | h
  · rw [h] at hne; simp at hne
  · exact h
namespace Px
theorem find_at {l : List Pr} {k : B} {i : Nat} {p : Pr} (h : l[i]? = some p) (hk : p.1 = k) (hno : ∀ (j : Nat) (q : Pr), j < i → l[j]? = some q → q.1 ≠ k) : find l k = some p.2 := by
  induction l generalizing i with
  | nil => simp at h
  | cons a l ih =>
    cases i with
    | zero =>
      simp at h
      subst h
      unfold find
      rw [if_pos hk]
    | succ i =>
      have ha := hno 0 a (by omega) rfl
      unfold find
      rw [if_neg ha]
      exact ih (by simpa using h) (fun j q hj hq => hno (j + 1) q (by omega) (by simpa using hq))
/-- what Find answers -/
def findE (l : List Pr) (k : B) : B × Nat := match find l k with | some v => (v, 0) | none => ([], 4)
theorem S_eql (a b : B) : ((Nm.S a).toList == (Nm.S b).toList) = decide (a = b) := by
  rw [Nm.toList_S, Nm.toList_S]
  by_cases h : a = b
  · subst h; simp
  · rw [decide_eq_false h, beq_eq_false_iff_ne]; exact h
end Px
end Go.Proofs.YtldkhbkgmiicbabGreatDoor

/- The document's own Put (of tabularyref09). -/
namespace Go.Proofs.YtldkhbkgmiicbabGreatDoor
open Go.RowKit Go.Deep
set_option linter.unusedVariables false
set_option linter.unusedSimpArgs false

namespace Px
/-- the cells of a row of bytes -/
def cellsB (l : B) : List Value := l.map fun c => .int .u8 (c.toNat : Int)
theorem cellsB_append (a b : B) : cellsB (a ++ b) = cellsB a ++ cellsB b := List.map_append
theorem cellsB_len (l : B) : (cellsB l).length = l.length := List.length_map _
theorem cellsU_rowF (l : B) : cellsU (rowF l) l.length = cellsB l := by
  unfold cellsU cellsB
  refine List.ext_getElem? fun i => ?_
  rw [List.getElem?_map, List.getElem?_map]
  rcases Nat.lt_or_ge i l.length with h | h
  · rw [List.getElem?_range h, List.getElem?_eq_getElem h]
    show some (Value.int .u8 (rowF l i)) = _
    unfold rowF
    rw [List.getD_eq_getElem?_getD, List.getElem?_eq_getElem h]; rfl
  · rw [List.getElem?_eq_none (by simpa using h), List.getElem?_eq_none h]; rfl
def lastK (l : List Pr) (k : Nat) : Option B := if k = 0 then none else (l[k - 1]?).map (·.1)
theorem putE_at {l : List Pr} {k : Nat} {p : Pr} (hp : l[k]? = some p) : putE (lastK l k) (l.drop k) k = if fits p ≠ 0 then (k, fits p) else if behind (lastK l k) p.1 = false then (k, 92) else putE (lastK l (k + 1)) (l.drop (k + 1)) (k + 1) := by
  obtain ⟨hk, e⟩ := List.getElem?_eq_some_iff.1 hp
  rw [List.drop_eq_getElem_cons hk, e]
  have h1 : lastK l (k + 1) = some p.1 := by
    unfold lastK
    rw [if_neg (by omega), Nat.add_sub_cancel, hp]; rfl
  rw [h1]
  rfl
theorem all9_take {l : List Pr} {k : Nat} {p : Pr} (hp : l[k]? = some p) : all9 (l.take (k + 1)) = all9 (l.take k) ++ rcd p := by
  rw [List.take_add_one, hp, all9_append]
  simp [all9]
theorem rcd_bd {p : Pr} (h : fits p = 0) : (rcd p).length ≤ 1064 := by rw [rcd_len]; exact psize_le h
theorem all9_bd : ∀ (l : List Pr), (∀ p ∈ l, fits p = 0) → (all9 l).length ≤ 1064 * l.length
  | [], _ => Nat.zero_le _
  | p :: l, h => by
    have h1 := rcd_bd (h p (by simp))
    have h2 := all9_bd l (fun q hq => h q (List.mem_cons_of_mem _ hq))
    rw [all9, List.length_append, List.length_cons]
    omega
end Px
/-- what Put answers -/
def PutEnds (base : Nat) (L : List Px.Pr) (e : Ending) (w' : World) : Prop :=
  ((Px.putF L).2.2 ≠ 0 ∧ e = .returned (.tuple #[.slice none 0 0, .int .i64 ((Px.putF L).2.1 : Int), .int .i64 ((Px.putF L).2.2 : Int)])) ∨
  ((Px.putF L).2.2 = 0 ∧ ∃ v, e = .returned (.tuple #[v, .int .i64 0, .int .i64 0]) ∧ w'.ownsRow base 5 1 v (Px.all9 L).length (Px.cellsB (Px.all9 L)))
end Go.Proofs.YtldkhbkgmiicbabGreatDoor

/- The document's own long (of tabularyref09): the number that bytes begin with. -/
namespace Go.Proofs.YtldkhbkgmiicbabGreatDoor
open Go.RowKit Go.Deep
set_option linter.unusedVariables false
set_option linter.unusedSimpArgs false

namespace Px
theorem take_snoc {b : B} {d : Nat} {c : UInt8} (h : b[d]? = some c) : b.take (d + 1) = b.take d ++ [c] := by rw [List.take_add_one, h]; rfl
theorem rowF_at {b : B} {i : Nat} {c : UInt8} (h : b[i]? = some c) : rowF b i = (c.toNat : Int) := by
  unfold rowF
  rw [List.getD_eq_getElem?_getD, h]; rfl
end Px
end Go.Proofs.YtldkhbkgmiicbabGreatDoor

/- The document's own one (of tabularyref09): the record that bytes begin with. -/
namespace Go.Proofs.YtldkhbkgmiicbabGreatDoor
open Go.RowKit Go.Deep
set_option linter.unusedVariables false
set_option linter.unusedSimpArgs false

namespace Px
end Px
namespace Px
end Px
/-- what one answers -/
def OneEnds (b : Px.B) (e : Ending) : Prop := e = .returned (.tuple #[.agg #[.string (Nm.S (Px.oneF b).1.1), .string (Nm.S (Px.oneF b).1.2)], .int .i64 ((Px.oneF b).2.1 : Int), .int .i64 ((Px.oneF b).2.2 : Int)])
end Go.Proofs.YtldkhbkgmiicbabGreatDoor

/- The document's own Get (of tabularyref09). -/
namespace Go.Proofs.YtldkhbkgmiicbabGreatDoor
open Go.RowKit Go.Deep
set_option linter.unusedVariables false
set_option linter.unusedSimpArgs false

namespace Px
/-- the cells of a list of pairs -/
def cellsPr : List Pr → List Value
  | [] => []
  | p :: l => .string (Nm.S p.1) :: .string (Nm.S p.2) :: cellsPr l
theorem cellsPr_len : ∀ a, (cellsPr a).length = a.length * 2
  | [] => rfl
  | p :: a => by simp only [cellsPr, List.length_cons, cellsPr_len a]; omega
theorem cellsPr_get : ∀ (a : List Pr) (j : Nat) (p : Pr), a[j]? = some p → (cellsPr a)[j * 2]? = some (.string (Nm.S p.1)) ∧ (cellsPr a)[j * 2 + 1]? = some (.string (Nm.S p.2))
  | [], j, p, h => by simp at h
  | q :: a, 0, p, h => by simp at h; subst h; exact ⟨rfl, rfl⟩
  | q :: a, j + 1, p, h => by
    have := cellsPr_get a j p (by simpa using h)
    rw [show (j + 1) * 2 = j * 2 + 1 + 1 by omega]
    exact this
end Px
theorem info_pair : (Tryz.prog.info? 42).map (fun i => (i.zero, i.size, i.bytes)) = some (some (.agg #[.string ⟨#[]⟩, .string ⟨#[]⟩]), 2, 32) := by kernel_rfl
/-- a list of pairs of the call's own lies in memory -/
theorem prs_of_own {w : World} {base : Nat} {v : Value} {L : List Px.Pr} (h : w.ownsRow base 42 2 v L.length (Px.cellsPr L)) : ∃ A cap, v = .slice A L.length cap ∧ L.length ≤ cap ∧ PrsAt w A L ∧ (A = none → cap = 0) := by
  rcases h.2 with ⟨h0, h1⟩ | ⟨g, cap, cur, hv, hb, hg, h1, h2, h3, h4⟩
  · have : L = [] := List.eq_nil_of_length_eq_zero h1
    subst this
    exact ⟨none, 0, h0, Nat.le_refl _, .inl rfl, fun _ => rfl⟩
  · refine ⟨some ⟨g, 0, none⟩, cap, hv, h1, .inr ⟨g, 0, rfl, fun i p hp => ?_⟩, fun e => by cases e⟩
    have hi := (List.getElem?_eq_some_iff.1 hp).1
    have hc := Px.cellsPr_get L i p hp
    have e : ∀ j, j < L.length * 2 → cur[j]? = (Px.cellsPr L)[j]? := fun j hj => by
      rw [← h4, List.getElem?_take, if_pos hj, Array.getElem?_toList]
    rw [Nat.zero_add, cell_of_row w g _ cur _ _ hg, cell_of_row w g _ cur _ _ hg, e _ (by omega), e _ (by omega)]
    exact hc
namespace Px
end Px
/-- what Get answers -/
def GetEnds (base : Nat) (b : Px.B) (e : Ending) (w' : World) : Prop :=
  ((Px.getF b 0 []).2.2 ≠ 0 ∧ e = .returned (.tuple #[.slice none 0 0, .int .i64 ((Px.getF b 0 []).2.1 : Int), .int .i64 ((Px.getF b 0 []).2.2 : Int)])) ∨
  ((Px.getF b 0 []).2.2 = 0 ∧ ∃ v, e = .returned (.tuple #[v, .int .i64 0, .int .i64 0]) ∧ w'.ownsRow base 42 2 v (Px.getF b 0 []).1.length (Px.cellsPr (Px.getF b 0 []).1))
end Go.Proofs.YtldkhbkgmiicbabGreatDoor

/- The document's own Over (of tabularyref09). -/
namespace Go.Proofs.YtldkhbkgmiicbabGreatDoor
open Go.RowKit Go.Deep
set_option linter.unusedVariables false
set_option linter.unusedSimpArgs false

namespace Px
/-- Over's answer -/
def overF (l m : List Pr) : List Pr × Nat := if (putF l).2.2 ≠ 0 then ([], (putF l).2.2) else if (putF m).2.2 ≠ 0 then ([], (putF m).2.2) else if 64 < (over l m).length then ([], 3) else (over l m, 0)
end Px
/-- what Over answers -/
def OverEnds (base : Nat) (L M : List Px.Pr) (e : Ending) (w' : World) : Prop :=
  ((Px.overF L M).2 ≠ 0 ∧ e = .returned (.tuple #[.slice none 0 0, .int .i64 ((Px.overF L M).2 : Int)])) ∨
  ((Px.overF L M).2 = 0 ∧ ∃ v, e = .returned (.tuple #[v, .int .i64 0]) ∧ w'.ownsRow base 42 2 v (Px.overF L M).1.length (Px.cellsPr (Px.overF L M).1))
end Go.Proofs.YtldkhbkgmiicbabGreatDoor

/- The statements' helpers of layer 9: the same bytes, the same pairs. -/
namespace Go.Proofs.YtldkhbkgmiicbabGreatDoor
open Go.RowKit Go.Deep
set_option linter.unusedVariables false
set_option linter.unusedSimpArgs false

end Go.Proofs.YtldkhbkgmiicbabGreatDoor

/- The statements' helpers of layer 9: a list lent, and whether it was kept. -/
namespace Go.Proofs.YtldkhbkgmiicbabGreatDoor
open Go.RowKit Go.Deep
set_option linter.unusedVariables false
set_option linter.unusedSimpArgs false

namespace Px
theorem cellsPr_at : ∀ (L : List Pr) (j : Nat) (u : Value), (cellsPr L)[j]? = some u → ∃ p, L[j / 2]? = some p ∧ u = if j % 2 = 0 then .string (Nm.S p.1) else .string (Nm.S p.2)
  | [], j, u, h => by simp [cellsPr] at h
  | p :: L, 0, u, h => by simp [cellsPr] at h; exact ⟨p, rfl, by simp [h]⟩
  | p :: L, 1, u, h => by simp [cellsPr] at h; exact ⟨p, rfl, by simp [h]⟩
  | p :: L, j + 2, u, h => by
    obtain ⟨q, hq, hu⟩ := cellsPr_at L j u (by simpa [cellsPr] using h)
    refine ⟨q, ?_, ?_⟩
    · rw [show (j + 2) / 2 = j / 2 + 1 by omega]; simpa using hq
    · rw [show (j + 2) % 2 = j % 2 by omega]; exact hu
theorem cellsPr_one (L : List Pr) : ∀ u ∈ cellsPr L, u.oneCell' = true := by
  intro u hu
  obtain ⟨j, hj⟩ := List.getElem?_of_mem hu
  obtain ⟨p, _, rfl⟩ := cellsPr_at L j u hj
  split <;> rfl
def mark : Pr := ([109, 97, 114, 107], [])
end Px
theorem prs_news {w : World} {b o : Nat} {L : List Px.Pr} (h : PrsAt w (some ⟨b, o, none⟩) L) : ∀ j u, (Px.cellsPr L)[j]? = some u → w.cell? ((⟨b, o, none⟩ : Addr).add j) = some u := by
  intro j u hu
  obtain ⟨p, hp, rfl⟩ := Px.cellsPr_at L j u hu
  obtain ⟨b', o', e, hc⟩ := h.at (by have := (List.getElem?_eq_some_iff.1 hp).1; omega)
  cases e
  rw [Addr.add_lit]
  obtain ⟨g1, g2⟩ := hc (j / 2) p hp
  split
  · rename_i h2
    rw [show o + j = o + j / 2 * 2 by omega]; exact g1
  · rename_i h2
    rw [show o + j = o + j / 2 * 2 + 1 by omega]; exact g2
/-- a list of pairs in memory appended to one of the call's own -/
theorem wpList_append_prs {P : Program} (w : World) {ops : Array Oper} {rest : List Oper} {o : Oper} {a : Act} {Q : Exit → Act → World → Prop} (hgd : o.guard = none) (s x : Operand) (t : TypeId)
    (ho : o.op = .call { callee := .builtin .append, args := #[s, x], argTypes := #[t, t] })
    (base : Nat) (e : TypeId) (i : TypeInfo) (z : Value) (bytes : Nat) (ht : P.underlying t = some (.slice e)) (hi : P.info? e = some i) (hz : i.zero = some z)
    (hsize : i.size = 2) (hby : i.bytes = bytes) (hzs : z.cells.size = 2)
    (v : Value) (n : Nat) (xs : List Value) (hs : a.eval s = v) (hown : w.ownsRow base e 2 v n xs)
    (A : Option Addr) (C : Nat) (L : List Px.Pr) (m : Nat) (hm : L.length = m) (hx : a.eval x = .slice A m C) (hr : PrsAt w A L) (hC : A = none → m = 0 ∧ C = 0)
    (h63 : n + m ≤ maxLen) (hbytes : (n + m) * bytes ≤ 140737488355328) (hbase : base ≤ w.heap.size)
    (h : ∀ v' w', w'.ownsRow base e 2 v' (n + m) (xs ++ Px.cellsPr L) → w.grownBy w' v.ownBlock → wpList P ops Q rest (a.put o.dst v') w') : wpList P ops Q (o :: rest) a w := by
  cases A with
  | some ad =>
    have hnews : ∀ j u, (Px.cellsPr L)[j]? = some u → w.cell? (ad.add j) = some u := by
      rcases hr with h0 | ⟨b, off, e1, h2⟩
      · intro j u hu; rw [h0] at hu; simp [Px.cellsPr] at hu
      · cases e1; exact prs_news (.inr ⟨b, off, rfl, h2⟩)
    exact wpList_append_own w hgd s x t ho base e i z 2 bytes ht hi hz hsize hby hzs (by decide) v n xs hs hown ad m C (Px.cellsPr L) hx (by rw [Px.cellsPr_len, hm]) hnews (Px.cellsPr_one L) h63 hbytes hbase (fun v' w' h1 h2 _ => h v' w' h1 h2)
  | none =>
    obtain ⟨rfl, rfl⟩ := hC rfl
    have hL : L = [] := List.eq_nil_of_length_eq_zero hm
    subst hL
    refine wpList_plain hgd fun K hK' => ?_
    have hrun := run_append_owned_none (P := P) w base t o.type e i 2 ht hi v n xs hown
    unfold Oper.wp
    simp [execOp, ho, resolve, invoke, builtin, hs, hx, hrun, Result.andThen]
    exact hK' _ _ (h v w (by simpa [Px.cellsPr] using hown) (World.grownBy.refl _ _))
theorem PrsAt.front {w : World} {A : Option Addr} {L M : List Px.Pr} (h : PrsAt w A (L ++ M)) : PrsAt w A L := by
  rcases h with h | ⟨b, off, h1, h2⟩
  · exact .inl (List.append_eq_nil_iff.1 h).1
  · exact .inr ⟨b, off, h1, fun i p hp => h2 i p (by rw [List.getElem?_append_left (List.getElem?_eq_some_iff.1 hp).1]; exact hp)⟩
end Go.Proofs.YtldkhbkgmiicbabGreatDoor

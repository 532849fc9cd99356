/- Layer 19, code-free: airs as lists; datagrams in memory by lists. -/
import Derived.Test.YtjjnbpbbjaabeaaK4
import Derived.Laws.AppendOwnNone
import Derived.Laws.OwnMore
import Derived.Lib.Overlaps
import Derived.Laws.Externs
namespace Go.Proofs.Ytjjnbpbbjaabeaa
open Go.RowKit Go.Deep
set_option linter.unusedVariables false
set_option linter.unusedSimpArgs false

/-- a datagram -/
structure Ai.Dg where
  src : Int
  dst : Int
  b : List Nat
/-- an air: its parties, what is under way, which ways are cut, and how often one was -/
structure Ai.St where
  n : Nat
  L : List Ai.Dg
  cut : Int → Int → Bool
  m : Nat
namespace Ai
/-- is it a party -/
def St.is (S : St) (p : Int) : Bool := decide (0 ≤ p) && decide (p < (S.n : Int))
def St.fits (S : St) (d : Dg) : Bool := S.is d.src && S.is d.dst
/-- what Send answers -/
def St.sendE (S : St) (d : Dg) : Int :=
  if S.fits d = false then 1 else if 262144 < d.b.length then 2 else if S.cut d.src d.dst = true then 0 else if 4096 ≤ S.L.length then 3 else 0
def St.goes (S : St) (d : Dg) : Bool := S.fits d && decide (d.b.length ≤ 262144) && !S.cut d.src d.dst && decide (S.L.length < 4096)
def St.send (S : St) (d : Dg) : St := if S.goes d = true then { S with L := S.L ++ [d] } else S
def St.has (S : St) (i : Int) : Bool := decide (0 ≤ i) && decide (i < (S.L.length : Int))
def St.lose (S : St) (i : Int) : St := if S.has i = true then { S with L := S.L.eraseIdx i.toNat } else S
def St.dbl (S : St) (i : Int) : Bool := S.has i && decide (S.L.length < 4096)
def zero : Dg := ⟨0, 0, []⟩
def St.at (S : St) (i : Int) : Dg := S.L.getD i.toNat zero
def St.twice (S : St) (i : Int) : St := if S.dbl i = true then { S with L := S.L ++ [S.at i] } else S
def St.hold (S : St) (i : Int) : St := if S.has i = true then { S with L := S.L.eraseIdx i.toNat ++ [S.at i] } else S
def St.cutW (S : St) (p q : Int) (off : Bool) : St := if S.is p && S.is q then { S with cut := fun x y => if x = p ∧ y = q then off else S.cut x y, m := S.m + 1 } else S
def new (n : Nat) : St := ⟨n, [], fun _ _ => false, 0⟩
structure St.Ok (S : St) : Prop where
  n1 : 1 ≤ S.n
  n64 : S.n ≤ 64
  few : S.L.length ≤ 4096
  dgs : ∀ d ∈ S.L, S.fits d = true ∧ d.b.length ≤ 262144
  ways : ∀ p q, S.cut p q = true → S.is p = true ∧ S.is q = true
theorem has_iff {S : St} {i : Int} : S.has i = true ↔ 0 ≤ i ∧ i < (S.L.length : Int) := by unfold St.has; rw [Bool.and_eq_true, decide_eq_true_eq, decide_eq_true_eq]
theorem has_nat {S : St} {i : Int} (h : S.has i = true) : ∃ k : Nat, i = (k : Int) ∧ k < S.L.length := by
  rw [has_iff] at h
  exact ⟨i.toNat, by omega, by omega⟩
theorem has_of {S : St} {k : Nat} (h : k < S.L.length) : S.has (k : Int) = true := has_iff.2 ⟨by omega, by omega⟩
theorem at_of {S : St} {k : Nat} (h : k < S.L.length) : S.at (k : Int) = S.L[k] := by
  unfold St.at
  rw [Int.toNat_natCast, List.getD_eq_getElem?_getD, List.getElem?_eq_getElem h]
  rfl
theorem new_ok {n : Nat} (h1 : 1 ≤ n) (h2 : n ≤ 64) : (new n).Ok := ⟨h1, h2, Nat.zero_le _, fun d hd => (by cases hd), fun p q h => (by cases h)⟩
theorem send_n (S : St) (d : Dg) : (S.send d).n = S.n := by unfold St.send; split <;> rfl
theorem lose_ok {S : St} (h : S.Ok) (i : Int) : (S.lose i).Ok := by
  unfold St.lose
  split
  · exact ⟨h.n1, h.n64, by have := h.few; show (S.L.eraseIdx _).length ≤ _; rw [List.length_eraseIdx]; split <;> omega, fun d hd => h.dgs d (List.mem_of_mem_eraseIdx hd), h.ways⟩
  · exact h
theorem send_ok {S : St} (h : S.Ok) (d : Dg) : (S.send d).Ok := by
  unfold St.send
  split
  · rename_i hg
    unfold St.goes at hg
    simp only [Bool.and_eq_true, decide_eq_true_eq] at hg
    refine ⟨h.n1, h.n64, by show (S.L ++ [d]).length ≤ 4096; rw [List.length_append]; simp only [List.length_cons, List.length_nil]; omega, fun x hx => ?_, h.ways⟩
    rcases List.mem_append.1 hx with hx | hx
    · exact h.dgs x hx
    · rw [List.mem_singleton.1 hx]; exact ⟨hg.1.1.1, hg.1.1.2⟩
  · exact h
theorem at_mem {S : St} {i : Int} (h : S.has i = true) : S.at i ∈ S.L := by
  obtain ⟨k, rfl, hk⟩ := has_nat h
  rw [at_of hk]
  exact List.getElem_mem hk
theorem twice_ok {S : St} (h : S.Ok) (i : Int) : (S.twice i).Ok := by
  unfold St.twice
  split
  · rename_i hg
    unfold St.dbl at hg
    simp only [Bool.and_eq_true, decide_eq_true_eq] at hg
    refine ⟨h.n1, h.n64, by show (S.L ++ [S.at i]).length ≤ 4096; rw [List.length_append]; simp only [List.length_cons, List.length_nil]; omega, fun x hx => ?_, h.ways⟩
    rcases List.mem_append.1 hx with hx | hx
    · exact h.dgs x hx
    · rw [List.mem_singleton.1 hx]; exact h.dgs _ (at_mem hg.1)
  · exact h
theorem hold_ok {S : St} (h : S.Ok) (i : Int) : (S.hold i).Ok := by
  unfold St.hold
  split
  · rename_i hg
    refine ⟨h.n1, h.n64, ?_, fun x hx => ?_, h.ways⟩
    · obtain ⟨k, rfl, hk⟩ := has_nat hg
      have := h.few
      show (S.L.eraseIdx _ ++ [_]).length ≤ 4096
      rw [List.length_append, Int.toNat_natCast, List.length_eraseIdx, if_pos hk]
      simp only [List.length_cons, List.length_nil]
      omega
    · rcases List.mem_append.1 hx with hx | hx
      · exact h.dgs x (List.mem_of_mem_eraseIdx hx)
      · rw [List.mem_singleton.1 hx]; exact h.dgs _ (at_mem hg)
  · exact h
theorem cut_ok {S : St} (h : S.Ok) (p q : Int) (off : Bool) : (S.cutW p q off).Ok := by
  unfold St.cutW
  split
  · rename_i hg
    rw [Bool.and_eq_true] at hg
    refine ⟨h.n1, h.n64, h.few, h.dgs, fun x y hxy => ?_⟩
    dsimp only at hxy
    split at hxy
    · rename_i e
      rw [e.1, e.2]; exact hg
    · exact h.ways x y hxy
  · exact h
end Ai

/-- a list of numbers as what stands at each place -/
def rowL (l : List Nat) : Nat → Int := fun i => ((l.getD i 0 : Nat) : Int)
theorem rowL_at {l : List Nat} {i : Nat} (h : i < l.length) : rowL l i = ((l[i] : Nat) : Int) := by unfold rowL; rw [List.getD_eq_getElem?_getD, List.getElem?_eq_getElem h]; rfl
/-- numbers as a list -/
def datF (f : Nat → Int) (n : Nat) : List Nat := (List.range n).map fun i => (f i).toNat
theorem datF_len (f : Nat → Int) (n : Nat) : (datF f n).length = n := by unfold datF; simp
theorem rowL_datF (f : Nat → Int) (hf : ∀ i, 0 ≤ f i) {n i : Nat} (h : i < n) : rowL (datF f n) i = f i := by
  rw [rowL_at (by rw [datF_len]; exact h)]
  unfold datF
  rw [List.getElem_map, List.getElem_range]
  have := hf i
  omega
theorem datF_rowL (l : List Nat) : datF (rowL l) l.length = l := by
  apply List.ext_getElem
  · rw [datF_len]
  · intro i h1 h2
    have e : (datF (rowL l) l.length)[i] = (rowL l i).toNat := by simp [datF]
    rw [e, rowL_at h2, Int.toNat_natCast]
theorem datF_congr {f g : Nat → Int} {n : Nat} (h : ∀ i, i < n → f i = g i) : datF f n = datF g n := by
  unfold datF
  exact List.map_congr_left (fun i hi => by rw [h i (List.mem_range.1 hi)])
/-- a list of bytes in memory -/
def RowV (w : World) (v : Value) (l : List Nat) : Prop := ∃ A c, v = .slice A l.length c ∧ l.length ≤ c ∧ (A = none → c = 0) ∧ (l.length ≤ 140737488355328 ∧ c ≤ 9223372036854775807) ∧ RowAt w A l.length (rowL l)
theorem RowV.keep {w w' : World} {v : Value} {l : List Nat} (h : RowV w v l) (k : Bw w w') : RowV w' v l := by
  obtain ⟨A, c, e, h1, h2, h3, h4⟩ := h
  exact ⟨A, c, e, h1, h2, h3, h4.keep k⟩
/-- the blocks of a slice's cells are such -/
def VIn (Q : Nat → Prop) (v : Value) : Prop := ∀ b o n c, v = .slice (some ⟨b, o, none⟩) n c → 0 < n → Q b
theorem VIn.mono {Q Q' : Nat → Prop} {v : Value} (h : VIn Q v) (k : ∀ b, Q b → Q' b) : VIn Q' v := fun b o n c e h0 => k b (h b o n c e h0)
theorem RowV.keepx {P : Nat → Prop} {w w' : World} {v : Value} {l : List Nat} (h : RowV w v l) (k : Bx P w w') (hv : VIn (fun b => ¬ P b) v) : RowV w' v l := by
  obtain ⟨A, c, rfl, h1, h2, h3, h4⟩ := h
  exact ⟨A, c, rfl, h1, h2, h3, h4.keepx k (fun b o e h0 => hv b o _ _ (by rw [e]) h0)⟩
theorem RowV.low {w : World} {v : Value} {l : List Nat} (h : RowV w v l) : VIn (fun b => b < w.heap.size) v := by
  obtain ⟨A, c, rfl, h1, h2, h3, h4⟩ := h
  intro b o n c' e h0
  cases e
  exact h4.lt h0
theorem RowV.nil (w : World) : RowV w (.slice none 0 0) [] := ⟨none, 0, rfl, Nat.le_refl _, fun _ => rfl, ⟨Nat.zero_le _, Nat.zero_le _⟩, row_none w⟩
theorem VIn.nil (Q : Nat → Prop) : VIn Q (.slice none 0 0) := fun b o n c e h0 => (by cases e)

/-- a datagram's three cells -/
structure Raw where
  src : Int
  dst : Int
  v : Value
namespace Raw
def zero : Raw := ⟨0, 0, .slice none 0 0⟩
def cells (r : Raw) : List Value := [.int .i64 r.src, .int .i64 r.dst, r.v]
def val (r : Raw) : Value := .agg #[.int .i64 r.src, .int .i64 r.dst, r.v]
end Raw
def flat : List Raw → List Value
  | [] => []
  | r :: L => .int .i64 r.src :: .int .i64 r.dst :: r.v :: flat L
theorem flat_append : ∀ a b, flat (a ++ b) = flat a ++ flat b
  | [], b => rfl
  | p :: a, b => by simp only [List.cons_append, flat, flat_append a b]
theorem flat_len : ∀ a, (flat a).length = a.length * 3
  | [] => rfl
  | p :: a => by simp only [flat, List.length_cons, flat_len a]; omega
theorem flat_get : ∀ (a : List Raw) (j : Nat) (p : Raw), a[j]? = some p → (flat a)[j * 3]? = some (.int .i64 p.src) ∧ (flat a)[j * 3 + 1]? = some (.int .i64 p.dst) ∧ (flat a)[j * 3 + 2]? = some p.v
  | [], j, p, h => by simp at h
  | q :: a, 0, p, h => by simp at h; subst h; exact ⟨rfl, rfl, rfl⟩
  | q :: a, j + 1, p, h => by
    have := flat_get a j p (by simpa using h)
    rw [show (j + 1) * 3 = j * 3 + 1 + 1 + 1 by omega]
    simpa [flat] using this
theorem flat_one : ∀ {L : List Raw}, (∀ r ∈ L, r.v.oneCell' = true) → ∀ u ∈ flat L, u.oneCell' = true
  | [], hL, u, h => absurd h (by simp [flat])
  | r :: L, hL, u, h => by
    simp only [flat, List.mem_cons] at h
    rcases h with rfl | rfl | rfl | h
    · rfl
    · rfl
    · exact hL r (by simp)
    · exact flat_one (fun r hr => hL r (by simp [hr])) u h
theorem flat_take : ∀ (L : List Raw) (k : Nat), flat (L.take k) = (flat L).take (k * 3)
  | [], k => by simp [flat]
  | r :: L, 0 => by simp [flat]
  | r :: L, k + 1 => by rw [show (k + 1) * 3 = k * 3 + 1 + 1 + 1 by omega]; simp only [List.take_succ_cons, flat, flat_take L k]
theorem flat_drop : ∀ (L : List Raw) (k : Nat), flat (L.drop k) = (flat L).drop (k * 3)
  | [], k => by simp [flat]
  | r :: L, 0 => by simp [flat]
  | r :: L, k + 1 => by rw [show (k + 1) * 3 = k * 3 + 1 + 1 + 1 by omega]; simp only [List.drop_succ_cons, flat, flat_drop L k]
/-- these datagrams, their bodies in memory -/
def DgsV (w : World) (E : List Raw) (L : List Ai.Dg) : Prop := E.length = L.length ∧ ∀ (i : Nat) (r : Raw) (d : Ai.Dg), E[i]? = some r → L[i]? = some d → r.src = d.src ∧ r.dst = d.dst ∧ RowV w r.v d.b
def EIn (Q : Nat → Prop) (E : List Raw) : Prop := ∀ r ∈ E, VIn Q r.v
theorem EIn.mono {Q Q' : Nat → Prop} {E : List Raw} (h : EIn Q E) (k : ∀ b, Q b → Q' b) : EIn Q' E := fun r hr => (h r hr).mono k
theorem EIn.append {Q : Nat → Prop} {E F : List Raw} (h : EIn Q E) (k : EIn Q F) : EIn Q (E ++ F) := fun r hr => (List.mem_append.1 hr).elim (h r) (k r)
theorem EIn.erase {Q : Nat → Prop} {E : List Raw} (h : EIn Q E) (k : Nat) : EIn Q (E.eraseIdx k) := fun r hr => h r (List.mem_of_mem_eraseIdx hr)
theorem EIn.one {Q : Nat → Prop} {r : Raw} (h : VIn Q r.v) : EIn Q [r] := fun x hx => by rw [List.mem_singleton.1 hx]; exact h
namespace DgsV
variable {w w' : World} {E F : List Raw} {L M : List Ai.Dg}
theorem nil (w : World) : DgsV w [] [] := ⟨rfl, fun i r d h _ => by simp at h⟩
theorem keep (h : DgsV w E L) (k : Bw w w') : DgsV w' E L := ⟨h.1, fun i r d h1 h2 => by obtain ⟨a, b, c⟩ := h.2 i r d h1 h2; exact ⟨a, b, c.keep k⟩⟩
theorem keepx {P : Nat → Prop} (h : DgsV w E L) (k : Bx P w w') (hE : EIn (fun b => ¬ P b) E) : DgsV w' E L := ⟨h.1, fun i r d h1 h2 => by obtain ⟨a, b, c⟩ := h.2 i r d h1 h2; exact ⟨a, b, c.keepx k (hE r (List.mem_of_getElem? h1))⟩⟩
theorem append (h : DgsV w E L) (k : DgsV w F M) : DgsV w (E ++ F) (L ++ M) := by
  refine ⟨by rw [List.length_append, List.length_append, h.1, k.1], fun i r d h1 h2 => ?_⟩
  by_cases e : i < E.length
  · rw [List.getElem?_append_left e] at h1
    rw [List.getElem?_append_left (by rw [← h.1]; exact e)] at h2
    exact h.2 i r d h1 h2
  · rw [List.getElem?_append_right (by omega)] at h1
    rw [List.getElem?_append_right (by rw [← h.1]; omega), ← h.1] at h2
    exact k.2 _ r d h1 h2
theorem one {r : Raw} {d : Ai.Dg} (h1 : r.src = d.src) (h2 : r.dst = d.dst) (h3 : RowV w r.v d.b) : DgsV w [r] [d] := ⟨rfl, fun i r' d' e1 e2 => by
  obtain rfl : i = 0 := by have := (List.getElem?_eq_some_iff.1 e1).1; simp at this; exact this
  cases e1; cases e2; exact ⟨h1, h2, h3⟩⟩
theorem take (h : DgsV w E L) (k : Nat) : DgsV w (E.take k) (L.take k) := by
  refine ⟨by rw [List.length_take, List.length_take, h.1], fun i r d h1 h2 => ?_⟩
  rw [List.getElem?_take] at h1 h2
  split at h1
  · rename_i hi
    rw [if_pos hi] at h2
    exact h.2 i r d h1 h2
  · cases h1
theorem drop (h : DgsV w E L) (k : Nat) : DgsV w (E.drop k) (L.drop k) := by
  refine ⟨by rw [List.length_drop, List.length_drop, h.1], fun i r d h1 h2 => ?_⟩
  rw [List.getElem?_drop] at h1 h2
  exact h.2 _ r d h1 h2
theorem erase (h : DgsV w E L) (k : Nat) : DgsV w (E.eraseIdx k) (L.eraseIdx k) := by
  rw [List.eraseIdx_eq_take_drop_succ, List.eraseIdx_eq_take_drop_succ]
  exact (h.take k).append (h.drop (k + 1))
theorem low (h : DgsV w E L) : EIn (fun b => b < w.heap.size) E := fun r hr => by
  obtain ⟨i, hi, rfl⟩ := List.getElem_of_mem hr
  have hi' : i < L.length := h.1 ▸ hi
  exact (h.2 i _ (L[i]'hi') (List.getElem?_eq_getElem hi) (List.getElem?_eq_getElem hi')).2.2.low
theorem get (h : DgsV w E L) {i : Nat} (hi : i < L.length) : ∃ r d, E[i]? = some r ∧ L[i]? = some d ∧ r.src = d.src ∧ r.dst = d.dst ∧ RowV w r.v d.b := by
  have hi' : i < E.length := by rw [h.1]; exact hi
  exact ⟨E[i], L[i], List.getElem?_eq_getElem hi', List.getElem?_eq_getElem hi, h.2 i _ _ (List.getElem?_eq_getElem hi') (List.getElem?_eq_getElem hi)⟩
theorem cellOne (h : DgsV w E L) : ∀ r ∈ E, r.v.oneCell' = true := fun r hr => by
  obtain ⟨i, hi, rfl⟩ := List.getElem_of_mem hr
  have hi' : i < L.length := h.1 ▸ hi
  obtain ⟨A, c, e, _⟩ := (h.2 i _ (L[i]'hi') (List.getElem?_eq_getElem hi) (List.getElem?_eq_getElem hi')).2.2
  rw [e]; rfl
end DgsV
end Go.Proofs.Ytjjnbpbbjaabeaa

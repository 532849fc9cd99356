/- The statements' helpers of layer 9: a list lent, and whether it was kept. -/
import Derived.Test.YtldkhbkgmiicbaaAE
import Derived.Laws.AppendOwnNone
namespace Go.Proofs.Ytldkhbkgmiicbaa
open Go.RowKit Go.Deep
set_option linter.unusedVariables false
set_option linter.unusedSimpArgs false

namespace Px
theorem cellsPr_at : ∀ (L : List Pr) (j : Nat) (u : Value), (cellsPr L)[j]? = some u → ∃ p, L[j / 2]? = some p ∧ u = if j % 2 = 0 then .string (Nm.S p.1) else .string (Nm.S p.2)
  | [], j, u, h => by simp [cellsPr] at h
  | p :: L, 0, u, h => by simp [cellsPr] at h; exact ⟨p, rfl, by simp [h]⟩
  | p :: L, 1, u, h => by simp [cellsPr] at h; exact ⟨p, rfl, by simp [h]⟩
  | p :: L, j + 2, u, h => by
    obtain ⟨q, hq, hu⟩ := cellsPr_at L j u (by simpa [cellsPr] using h)
    refine ⟨q, ?_, ?_⟩
    · rw [show (j + 2) / 2 = j / 2 + 1 by omega]; simpa using hq
    · rw [show (j + 2) % 2 = j % 2 by omega]; exact hu
theorem cellsPr_one (L : List Pr) : ∀ u ∈ cellsPr L, u.oneCell' = true := by
  intro u hu
  obtain ⟨j, hj⟩ := List.getElem?_of_mem hu
  obtain ⟨p, _, rfl⟩ := cellsPr_at L j u hj
  split <;> rfl
def mark : Pr := ([109, 97, 114, 107], [])
end Px
theorem prs_news {w : World} {b o : Nat} {L : List Px.Pr} (h : PrsAt w (some ⟨b, o, none⟩) L) : ∀ j u, (Px.cellsPr L)[j]? = some u → w.cell? ((⟨b, o, none⟩ : Addr).add j) = some u := by
  intro j u hu
  obtain ⟨p, hp, rfl⟩ := Px.cellsPr_at L j u hu
  obtain ⟨b', o', e, hc⟩ := h.at (by have := (List.getElem?_eq_some_iff.1 hp).1; omega)
  cases e
  rw [Addr.add_lit]
  obtain ⟨g1, g2⟩ := hc (j / 2) p hp
  split
  · rename_i h2
    rw [show o + j = o + j / 2 * 2 by omega]; exact g1
  · rename_i h2
    rw [show o + j = o + j / 2 * 2 + 1 by omega]; exact g2
/-- a list of pairs in memory appended to one of the call's own -/
theorem wpList_append_prs {P : Program} (w : World) {ops : Array Oper} {rest : List Oper} {o : Oper} {a : Act} {Q : Exit → Act → World → Prop} (hgd : o.guard = none) (s x : Operand) (t : TypeId)
    (ho : o.op = .call { callee := .builtin .append, args := #[s, x], argTypes := #[t, t] })
    (base : Nat) (e : TypeId) (i : TypeInfo) (z : Value) (bytes : Nat) (ht : P.underlying t = some (.slice e)) (hi : P.info? e = some i) (hz : i.zero = some z)
    (hsize : i.size = 2) (hby : i.bytes = bytes) (hzs : z.cells.size = 2)
    (v : Value) (n : Nat) (xs : List Value) (hs : a.eval s = v) (hown : w.ownsRow base e 2 v n xs)
    (A : Option Addr) (C : Nat) (L : List Px.Pr) (m : Nat) (hm : L.length = m) (hx : a.eval x = .slice A m C) (hr : PrsAt w A L) (hC : A = none → m = 0 ∧ C = 0)
    (h63 : n + m ≤ maxLen) (hbytes : (n + m) * bytes ≤ 140737488355328) (hbase : base ≤ w.heap.size)
    (h : ∀ v' w', w'.ownsRow base e 2 v' (n + m) (xs ++ Px.cellsPr L) → w.grownBy w' v.ownBlock → wpList P ops Q rest (a.put o.dst v') w') : wpList P ops Q (o :: rest) a w := by
  cases A with
  | some ad =>
    have hnews : ∀ j u, (Px.cellsPr L)[j]? = some u → w.cell? (ad.add j) = some u := by
      rcases hr with h0 | ⟨b, off, e1, h2⟩
      · intro j u hu; rw [h0] at hu; simp [Px.cellsPr] at hu
      · cases e1; exact prs_news (.inr ⟨b, off, rfl, h2⟩)
    exact wpList_append_own w hgd s x t ho base e i z 2 bytes ht hi hz hsize hby hzs (by decide) v n xs hs hown ad m C (Px.cellsPr L) hx (by rw [Px.cellsPr_len, hm]) hnews (Px.cellsPr_one L) h63 hbytes hbase (fun v' w' h1 h2 _ => h v' w' h1 h2)
  | none =>
    obtain ⟨rfl, rfl⟩ := hC rfl
    have hL : L = [] := List.eq_nil_of_length_eq_zero hm
    subst hL
    refine wpList_plain hgd fun K hK' => ?_
    have hrun := run_append_owned_none (P := P) w base t o.type e i 2 ht hi v n xs hown
    unfold Oper.wp
    simp [execOp, ho, resolve, invoke, builtin, hs, hx, hrun, Result.andThen]
    exact hK' _ _ (h v w (by simpa [Px.cellsPr] using hown) (World.grownBy.refl _ _))
theorem PrsAt.front {w : World} {A : Option Addr} {L M : List Px.Pr} (h : PrsAt w A (L ++ M)) : PrsAt w A L := by
  rcases h with h | ⟨b, off, h1, h2⟩
  · exact .inl (List.append_eq_nil_iff.1 h).1
  · exact .inr ⟨b, off, h1, fun i p hp => h2 i p (by rw [List.getElem?_append_left (List.getElem?_eq_some_iff.1 hp).1]; exact hp)⟩
theorem own_room9 {W : World} {base g n cap : Nat} {e : TypeId} {s : Nat} {xs : List Value} (h : W.ownsRow base e s (.slice (some ⟨g, 0, none⟩) n cap) n xs) : n ≤ cap ∧ base ≤ g := by
  rcases h.2 with ⟨h0, _⟩ | ⟨g', cap', cur, hv, hb, hg, h1, h2, h3, h4⟩
  · cases h0
  · cases hv; exact ⟨h1, hb⟩
/-- a lent list, with the mark behind it -/
theorem lent_prs {w : World} {base g n c : Nat} {L : List Px.Pr} (h : w.ownsRow base 33 2 (.slice (some ⟨g, 0, none⟩) n c) (L ++ [Px.mark]).length (Px.cellsPr (L ++ [Px.mark]))) : PrsAt w (some ⟨g, 0, none⟩) (L ++ [Px.mark]) := by
  obtain ⟨A, cap, hv, _, h2, _⟩ := prs_of_own h
  cases hv
  exact h2
end Go.Proofs.Ytldkhbkgmiicbaa

/- Two rows of the call's own, written over. -/
import Derived.Test.YtpgjkhlffcomgaaP15
namespace Go.Proofs.Ytpgjkhlffcomgaa
open Go.RowKit

/-- the blocks of two rows -/
def TwoOf (A B : Option Addr) (b : Nat) : Prop := (∃ a, A = some a ∧ a.block = b) ∨ ∃ a, B = some a ∧ a.block = b

/-- a row's block may be written over -/
def FreeAt (W : World) (A : Option Addr) : Prop := ∀ a, A = some a → ∃ cur, W.heap[a.block]? = some (.cells cur 5 (0, 0))
theorem FreeAt.keep {W W' : World} {A : Option Addr} (h : FreeAt W A) (b : Bw W W') : FreeAt W' A := fun a ha => by
  obtain ⟨cur, hc⟩ := h a ha
  exact ⟨cur, (b.block _ (Array.getElem?_eq_some_iff.1 hc).1).trans hc⟩

theorem roww_of {W : World} {S : Nat → Prop} {A : Option Addr} {L : Nat} {f : Nat → Int} (h : RowAt W A L f) (fr : FreeAt W A) (hS : ∀ a, A = some a → S a.block) : RowW W S A L := by
  rcases h.1 with h0 | ⟨b, off, e, hc⟩
  · exact Or.inl h0
  · refine Or.inr ⟨b, off, e, hS _ e, fun i hi => ?_⟩
    obtain ⟨cur, hcur⟩ := fr _ e
    exact ⟨⟨_, hc i hi, h.2 i⟩, frozen_of_row W b (off + i) cur _ hcur⟩

theorem matw_two {w : World} {A B : Option Addr} {la ca lb cb : Nat} {f g : Nat → Int} (ha : RowAt w A la f) (hb : RowAt w B lb g) (fa : FreeAt w A) (fb : FreeAt w B) :
    MatW (w.alloc (.cells #[.slice A la ca, .slice B lb cb] 22)) (TwoOf A B) (some ⟨w.heap.size, 0, none⟩) 2 (fun r => if r = 0 then A else B) (fun r => if r = 0 then la else lb) (fun r => if r = 0 then ca else cb) := by
  have hm := mat_two w A B la ca lb cb f g ha hb
  have hbw : Bw w (w.alloc (.cells #[.slice A la ca, .slice B lb cb] 22)) := (Below.refl _ _).alloc (Nat.le_refl _) _
  refine ⟨?_, fun r hr => ?_⟩
  · rcases hm.1 with h0 | ⟨b, off, e, hc⟩
    · omega
    · refine Or.inr ⟨b, off, e, ?_, hc⟩
      cases e
      rintro (⟨a, ha', e⟩ | ⟨a, ha', e⟩)
      · obtain ⟨cur, hc'⟩ := fa a ha'
        have := (Array.getElem?_eq_some_iff.1 hc').1
        omega
      · obtain ⟨cur, hc'⟩ := fb a ha'
        have := (Array.getElem?_eq_some_iff.1 hc').1
        omega
  · rcases (show r = 0 ∨ r = 1 by omega) with rfl | rfl
    · exact roww_of (ha.keep hbw) (fa.keep hbw) (fun a e => Or.inl ⟨a, e, rfl⟩)
    · exact roww_of (hb.keep hbw) (fb.keep hbw) (fun a e => Or.inr ⟨a, e, rfl⟩)

theorem two_in {A B : Option Addr} {lo hi : Nat} (hA : ∀ a, A = some a → lo ≤ a.block ∧ a.block < hi) (hB : ∀ a, B = some a → lo ≤ a.block ∧ a.block < hi) : ∀ b, TwoOf A B b → lo ≤ b ∧ b < hi := by
  rintro b (⟨a, e, rfl⟩ | ⟨a, e, rfl⟩)
  · exact hA a e
  · exact hB a e

theorem NewRow.keep {w w' : World} {base n : Nat} {A : Option Addr} {f : Nat → Int} (h : NewRow w base A n f) (k : Bw w w') : NewRow w' base A n f :=
  ⟨h.row.keep k, h.new.imp id (fun ⟨g, o, e, h1, h2⟩ => ⟨g, o, e, h1, Nat.lt_of_lt_of_le h2 k.size⟩)⟩
theorem NewRow.keepx {S : Nat → Prop} {w w' : World} {base n : Nat} {A : Option Addr} {f : Nat → Int} (h : NewRow w base A n f) (k : Bx S w w') (hS : ∀ b, S b → b < base) : RowAt w' A n f :=
  h.row.keepx k (fun b o e hL hs => by
    obtain ⟨g, o', e', h1, h2⟩ := h.new.resolve_left (by omega)
    rw [e] at e'; cases e'
    have := hS b hs; omega)

end Go.Proofs.Ytpgjkhlffcomgaa

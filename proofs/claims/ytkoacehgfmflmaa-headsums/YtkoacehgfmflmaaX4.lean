/- The statements' own turned, whatever the head, of layer 10 (written by mksums10.py). -/
import Derived.Test.YtkoacehgfmflmaaX3
namespace Go.Proofs.Ytkoacehgfmflmaa
open Go.RowKit Go.Deep
set_option linter.unusedVariables false
set_option linter.unusedSimpArgs false

/-- what turned answers -/
def TurnedSays (w : World) (e : Ending) (w' : World) : Prop := ∃ (A : Option Addr) (n ca : Nat) (l : Hd.B), e = .returned (.slice A n ca) ∧ l.length = n ∧ n ≤ ca ∧ n ≤ 140737488351232 ∧ RowAt w' A n (Hd.rowF l) ∧ (A = none → ca = 0) ∧ Bw w w'
theorem turned_any (h : Hd.Hdr) (hsm : Hd.Small h) (A : Option Addr) (n ca : Nat) (T : Nat → Int) (C : Nat → UInt8) (s : Bool) (B : Option Addr) (m cb : Nat) (l : Hd.B) (hl : l.length = m) (hmc : m ≤ cb) (hm : m ≤ 140737488351232) (hnil : B = none → cb = 0) (w : World) (hr : RowAt w B m (Hd.rowF l)) (ht : InTurns w A n ca T C) :
    Calls Try.prog 14 #[.agg (Hd.hv h), .slice A n ca, .bool s, .slice B m cb] w fun e w' => TurnedSays w e w' := by
  by_cases hg : Hd.may h = 0
  · refine (turned_good h hsm (Hd.may_good hg) A n ca T C s B m cb w ht).mono ?_
    rintro e w' ⟨g, cap, l', he, h1, h2, h3, h4⟩
    exact ⟨_, 512, cap, l', he, h2, h1, by omega, h3, (fun e => by cases e), h4⟩
  · refine (turned_bad h hsm _ rfl hg A n ca T C s B m cb w).mono ?_
    rintro e w' ⟨he, hb⟩
    exact ⟨B, m, cb, l, he, hl, hmc, hm, hr.keep hb, hnil, hb⟩
/-- what lent and a call on it leave: the row as a list -/
theorem lent_list {w : World} {g n : Nat} {l : Hd.B} (h : Own w g (n + 2) (lentF (Hd.rowF l) n)) : RowAt w (some ⟨g, 0, none⟩) (n + 2) (lentF (Hd.rowF l) n) ∧ RowAt w (some ⟨g, 0, none⟩) n (Hd.rowF l) := by
  have h1 := h.row (lentF_bd (Hd.rowF_bd l) n)
  exact ⟨h1, row_congr10 (row_less7 h1 (m := n) (by omega)) (Hd.rowF_bd l) (fun i hi => by unfold lentF; rw [if_pos hi])⟩
theorem made_zero {M : Array Value} (h1 : M.size = 512) (h2 : ∀ i, i < 512 → M[i]? = some (.int .u8 0)) (W : World) : RowAt (W.alloc (.cells M 5)) (some ⟨W.heap.size, 0, none⟩) 512 (Hd.rowF Hd.zeros) :=
  row_new W M _ 512 _ (Hd.rowF_bd _) (fun i hi => by rw [h2 i hi, Hd.zeros_row])
end Go.Proofs.Ytkoacehgfmflmaa

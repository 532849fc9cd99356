/- What the statements of layer 10 want besides: rows as lists, what is read. -/
import Derived.Test.YtkoacehgfmflmabX1
import Derived.Test.YtkoacehgfmflmabI4
namespace Go.Proofs.Ytkoacehgfmflmab
open Go.RowKit Go.Deep
set_option linter.unusedVariables false
set_option linter.unusedSimpArgs false

theorem row_list {w : World} {A : Option Addr} {n : Nat} {f : Nat → Int} (h : RowAt w A n f) : ∃ l : Hd.B, l.length = n ∧ RowAt w A n (Hd.rowF l) ∧ ∀ i, i < n → Hd.rowF l i = f i :=
  ⟨Hd.ofF f n, Hd.ofF_len f n, row_congr10 h (Hd.rowF_bd _) (fun i hi => Hd.rowF_ofF h.2 hi), fun i hi => Hd.rowF_ofF h.2 hi⟩
theorem Hd.reads_ex (b : Hd.B) : ∃ h e, Hd.Reads b h e := by
  rcases Hd.reads_cases b with a | ⟨a, c⟩ | ⟨a, c, d⟩ | ⟨a, c, d, m, g, em⟩ | ⟨a, c, d, m⟩
  · exact ⟨Hd.none, 1, fun _ => ⟨rfl, rfl⟩, fun h => absurd h a, fun h => absurd h a, fun h => absurd h a, fun h => absurd h a⟩
  · exact ⟨Hd.none, 100, fun h => absurd a h, fun _ _ => ⟨rfl, rfl⟩, fun _ h => absurd h c, fun _ h => absurd h c, fun _ h => absurd h c⟩
  · exact ⟨Hd.none, 101, fun h => absurd a h, fun _ h => absurd c h, fun _ _ _ => ⟨rfl, rfl⟩, fun _ _ h => absurd h d, fun _ _ h => absurd h d⟩
  · refine ⟨m, 0, ?_⟩
    rw [← em]
    exact Hd.lay_reads g
  · exact ⟨Hd.none, 100, fun h => absurd a h, fun _ h => absurd c h, fun _ _ h => absurd d h, fun _ _ _ k gk ek => absurd ek (m k gk), fun _ _ _ _ => ⟨rfl, rfl⟩⟩
/-- Get answers what is read -/
theorem hGet_reads (A : Option Addr) (n ca : Nat) (l : Hd.B) (k : Hd.Hdr) (er : Nat) (hl : l.length = n) (hr : Hd.Reads l k er) (w : World) (hw : RowAt w A n (Hd.rowF l)) : Calls Try.prog 8 #[.slice A n ca] w fun e w' => e = .returned (.tuple #[.agg (Hd.hv k), .int .i64 ((er : Nat) : Int)]) ∧ Bw w w' := by
  refine (hGet_any A n ca l hl w hw).mono ?_
  rintro e w' ⟨⟨k', er', rfl, hr'⟩, hb⟩
  obtain ⟨rfl, rfl⟩ := Hd.reads_unique hr hr'
  exact ⟨rfl, hb⟩
theorem headat_new (w : World) (h : Hd.Hdr) : HeadAt (w.alloc (.cells (Hd.hv h) 23)) w.heap.size h := heap_alloc_new _ _
theorem eq_none (W : World) {N : Array Value} (hN : Hid (N = Hd.none7)) : (Op.equalIn 10000 23 (.agg (Hd.hv Hd.none)) (.agg N)).run Try.prog W = .ok true W := by
  rw [hN.out, ← Hd.hv_none, equalIn_head, Hd.eqB_same]
theorem eq_none7 (W : World) : (Op.equalIn 10000 23 (.agg (Hd.hv Hd.none)) (.agg Hd.none7)).run Try.prog W = .ok true W := by
  rw [← Hd.hv_none, equalIn_head, Hd.eqB_same]
end Go.Proofs.Ytkoacehgfmflmab

/- The document's own Record (of tabularyref09). -/
import Derived.Test.YtmbabfelnieagaaDoorA6
namespace Go.Proofs.YtmbabfelnieagaaDoor
open Go.RowKit Go.Deep
set_option linter.unusedVariables false

theorem keep_pr {w2 u v : World} {g : Nat} {a b : Value} (h : u.cell? ⟨g, 0, none⟩ = some a ∧ u.cell? ⟨g, 1, none⟩ = some b ∧ Bw w2 u) (k : Bw u v) : v.cell? ⟨g, 0, none⟩ = some a ∧ v.cell? ⟨g, 1, none⟩ = some b ∧ Bw w2 v :=
  ⟨(k.cell (p := ⟨g, 0, none⟩) (block_lt_of_cell h.1)).trans h.1, (k.cell (p := ⟨g, 1, none⟩) (block_lt_of_cell h.2.1)).trans h.2.1, h.2.2.trans k⟩
set_option maxHeartbeats 1000000 in
theorem rrecord_any (a b : ByteArray) (ha : a.size ≤ 140737488355328) (hb : b.size ≤ 140737488355328) (w : World) :
    Calls Tryd.prog 9 #[.agg #[.string a, .string b]] w fun e w' => Bw w w' ∧
      ((Px.fits (a.toList, b.toList) ≠ 0 ∧ e = .returned (.tuple #[.slice none 0 0, .int .i64 ((Px.fits (a.toList, b.toList) : Nat) : Int)])) ∨
       (Px.fits (a.toList, b.toList) = 0 ∧ ∃ A cap, e = .returned (.tuple #[.slice A (Px.rcd (a.toList, b.toList)).length cap, .int .i64 0]) ∧ (Px.rcd (a.toList, b.toList)).length ≤ cap ∧ NewRow w' w.heap.size A (Px.rcd (a.toList, b.toList)).length (Px.rowF (Px.rcd (a.toList, b.toList))))) := by
  have hw1 : Bw w (w.alloc (.cells #[.string a, .string b] 23)) := Below.alloc (Below.refl _ _) (Nat.le_refl _) _
  obtain ⟨E, hE⟩ : ∃ E, Hid (E = Px.fits (a.toList, b.toList)) := ⟨_, rfl⟩
  go_enter Tryd.func9, Tryd.ntmps9
  by_cases h0 : E = 0
  · subst h0
    have hp4 : Hid (Px.psize (a.toList, b.toList) ≤ 1064) := Px.psize_le hE.out.symm
    obtain ⟨n, hn⟩ : ∃ n, Hid (n = Px.psize (a.toList, b.toList)) := ⟨_, rfl⟩
    rw [← hn.out] at hp4
    have hnb : n ≤ 1064 := hp4.out
    obtain ⟨Y0, h0⟩ : ∃ Y, Hid (Y = Nm.S (Px.dec n)) := ⟨_, rfl⟩
    have hs0 : Y0.size ≤ 1065 := by rw [h0.out, Nm.size_S, Px.dec_len]; have := Px.dl_le n; omega
    obtain ⟨Y1, h1⟩ : ∃ Y, Hid (Y = Y0 ++ (⟨#[32]⟩ : ByteArray)) := ⟨_, rfl⟩
    have hs1 : Y1.size = Y0.size + 1 := by rw [h1.out, ByteArray.size_append]; rfl
    obtain ⟨Y2, h2⟩ : ∃ Y, Hid (Y = Y1 ++ a) := ⟨_, rfl⟩
    have hs2 : Y2.size = Y1.size + a.size := by rw [h2.out, ByteArray.size_append]
    obtain ⟨Y3, h3⟩ : ∃ Y, Hid (Y = Y2 ++ (⟨#[61]⟩ : ByteArray)) := ⟨_, rfl⟩
    have hs3 : Y3.size = Y2.size + 1 := by rw [h3.out, ByteArray.size_append]; rfl
    obtain ⟨Y4, h4⟩ : ∃ Y, Hid (Y = Y3 ++ b) := ⟨_, rfl⟩
    have hs4 : Y4.size = Y3.size + b.size := by rw [h4.out, ByteArray.size_append]
    obtain ⟨Y5, h5⟩ : ∃ Y, Hid (Y = Y4 ++ (⟨#[10]⟩ : ByteArray)) := ⟨_, rfl⟩
    have hr1 : ∀ u : World, (Op.stringOp .add Y0 ⟨#[32]⟩).run Tryd.prog u = .ok (.string Y1) u := fun u => by rw [run_string_add_sum _ _ _ (by rw [show (⟨#[32]⟩ : ByteArray).size = 1 from rfl]; omega), h1.out]
    have hr2 : ∀ u : World, (Op.stringOp .add Y1 a).run Tryd.prog u = .ok (.string Y2) u := fun u => by rw [run_string_add_sum _ _ _ (by omega), h2.out]
    have hr3 : ∀ u : World, (Op.stringOp .add Y2 ⟨#[61]⟩).run Tryd.prog u = .ok (.string Y3) u := fun u => by rw [run_string_add_sum _ _ _ (by rw [show (⟨#[61]⟩ : ByteArray).size = 1 from rfl]; omega), h3.out]
    have hr4 : ∀ u : World, (Op.stringOp .add Y3 b).run Tryd.prog u = .ok (.string Y4) u := fun u => by rw [run_string_add_sum _ _ _ (by omega), h4.out]
    have hr5 : ∀ u : World, (Op.stringOp .add Y4 ⟨#[10]⟩).run Tryd.prog u = .ok (.string Y5) u := fun u => by rw [run_string_add_sum _ _ _ (by rw [show (⟨#[10]⟩ : ByteArray).size = 1 from rfl]; omega), h5.out]
    have hcv : ∀ u : World, (convert 9 24 (.string Y5)).run Tryd.prog u = .ok (.slice (some ⟨u.heap.size, 0, none⟩) Y5.size (textCap u Y5)) (textW u Y5) := fun u => conv_text u Y5
    have hY : Hid (Y5.toList = Px.rcd (a.toList, b.toList)) := by
      show _ = _
      rw [h5.out, h4.out, h3.out, h2.out, h1.out, h0.out, ← Nm.S_toList a, ← Nm.S_toList b, show (⟨#[32]⟩ : ByteArray) = Nm.S [32] from rfl, show (⟨#[61]⟩ : ByteArray) = Nm.S [61] from rfl, show (⟨#[10]⟩ : ByteArray) = Nm.S [10] from rfl]
      simp only [Nm.append_S, Nm.toList_S]
      unfold Px.rcd
      rw [← hn.out]
      simp
    clear hs0 hs1 hs2 hs3 hs4
    go_wp2_with (go_at_call 26; refine (rfits_any a b ha hb _).mono ?_; rintro e w2 ⟨rfl, hw2⟩; rw [← hE.out])
    have hg0 : w2.heap[w.heap.size]? = some (.cells #[.string a, .string b] 23 (0, 0)) := (hw2.block _ (by simp)).trans (World.alloc_heap_new w _)
    have hg1 : w2.cell? ⟨w.heap.size, 0, none⟩ = some (.string a) := cell_of_row w2 _ 0 _ _ _ hg0
    have hg2 : w2.cell? ⟨w.heap.size, 1, none⟩ = some (.string b) := cell_of_row w2 _ 1 _ _ _ hg0
    go_region_held3 (fun w' => w'.cell? ⟨w.heap.size, 0, none⟩ = some (.string a) ∧ w'.cell? ⟨w.heap.size, 1, none⟩ = some (.string b) ∧ Bw w2 w')
      (first | exact ⟨hg1, hg2, Below.drew (Bw.refl _)⟩ | assumption | (exact keep_pr (by assumption) (by assumption)))
      (first
        | (go_at_call 11; refine (rsize_any a b ha hb _).mono ?_; rintro e w3 ⟨rfl, hw3⟩; rw [← hn.out])
        | (go_at_call 27; refine (rdecimal_any n (by omega) _).mono ?_; rintro e w4 ⟨rfl, hw4⟩; rw [← h0.out]))
    rename_i hSe
    have hw4 := hSe.2.2
    go_wp2
    go_ret2
    have hlen : (Px.rcd (a.toList, b.toList)).length = Y5.size := by rw [← hY.out, Nm.size_toList]
    have hww : Bw w w4 := (hw1.trans hw2).trans hw4
    have hrow := textW_row w4 Y5
    rw [hY.out] at hrow
    refine ⟨hww.trans (textW_bw w4 Y5), .inr ⟨hE.out.symm, some ⟨w4.heap.size, 0, none⟩, textCap w4 Y5, ?_, ?_, ?_⟩⟩
    · rw [hlen]; rfl
    · rw [hlen]; exact textCap_ge w4 Y5
    · rw [hlen]
      exact ⟨hrow.row, hrow.new.imp id fun ⟨g, o, h1, h2, h3⟩ => ⟨g, o, h1, Nat.le_trans hww.size h2, h3⟩⟩
  · have e1 : ((E : Int) != 0) = true := by rw [bne_iff_ne]; omega
    go_wp2_with (go_at_call 26; refine (rfits_any a b ha hb _).mono ?_; rintro e w2 ⟨rfl, hw2⟩; rw [← hE.out])
    go_ret2
    refine ⟨hw1.trans hw2, .inl ⟨by rw [← hE.out]; exact h0, ?_⟩⟩
    rw [← hE.out]
    rfl
end Go.Proofs.YtmbabfelnieagaaDoor

/- Layer 15: a journal in memory; opened. -/
import Derived.Test.YtppknadflmjefaaWG
namespace Go.Proofs.Ytppknadflmjefaa
open Go.RowKit Go.Deep Go.Maps
set_option linter.unusedVariables false
set_option linter.unusedSimpArgs false

namespace Jl
theorem splF_len : ∀ (k : Nat) (l : List Nat) (L : List (List Nat)), splF k l = some L → L.length ≤ l.length
  | 0, [], L, h => by simp [splF] at h; subst h; simp
  | 0, _ :: _, L, h => by simp [splF] at h
  | k + 1, [], L, h => by simp [splF] at h; subst h; simp
  | k + 1, [_], L, h => by simp [splF] at h
  | k + 1, a :: b :: r, L, h => by
    rw [splF] at h
    split at h
    · obtain ⟨M, hM, rfl⟩ := Option.map_eq_some_iff.1 h
      have := splF_len k _ M hM
      rw [List.length_drop] at this
      simp only [List.length_cons]
      omega
    · cases h
theorem spl_len {D : List Nat} {L : List (List Nat)} (h : spl D = some L) : L.length ≤ D.length := splF_len _ _ _ h
/-- what a journal's numbers keep to -/
structure Jn.Ok (J : Jn) : Prop where
  rc4 : 4 ≤ J.rc
  rc : J.rc ≤ 65536
  r0 : J.r0 ≤ 65536
  fit : Fit J.h (room J.rc)
  few : J.L.length ≤ 4000000
theorem inside {r0 rc area len : Nat} (h : 2 ≤ rc) (ha : area ≤ 1) (hl : len ≤ room rc) : start r0 rc area + secs len ≤ r0 + rc := by
  have h1 : secs len ≤ half rc := by unfold secs room at *; omega
  have h2 : 2 * half rc + 2 ≤ rc := by unfold half; omega
  have h3 : area * half rc ≤ half rc := by rcases Nat.le_one_iff_eq_zero_or_eq_one.1 ha with rfl | rfl <;> omega
  unfold start
  omega
/-- each record takes bytes -/
def Jn.Few (J : Jn) : Prop := J.L.length ≤ J.h.len
theorem few_opn {S : Dsk} {r0 rc : Nat} {J : Jn} (h : opn S r0 rc = some J) : J.Few := by
  unfold opn at h
  obtain ⟨L, hL, rfl⟩ := Option.map_eq_some_iff.1 h
  have := spl_len hL
  unfold dat at this
  rw [data_len] at this
  exact this
theorem room_le {rc : Nat} (h : rc ≤ 65536) : room rc ≤ 2097088 := by unfold room half; omega
end Jl
def jcells (g : Nat) (v : Value) (J : Jl.Jn) : Array Value := #[.pointer (some ⟨g, 0, none⟩), .int .i64 (J.r0 : Int), .int .i64 (J.rc : Int), .int .u64 (J.h.n : Int), .int .i64 (J.h.area : Int), .int .i64 (J.h.len : Int), v, .bool J.dead]
/-- its blocks that it may turn -/
def jIn (gj : Nat) (v : Value) (b : Nat) : Prop := b = gj ∨ v.ownBlock = some b
/-- a journal in block gj over the disk in block g; its records at v, their bytes in blocks of R -/
structure JrAt (w : World) (base gj g : Nat) (R : Nat → Prop) (v : Value) (J : Jl.Jn) : Prop where
  cells : w.heap[gj]? = some (.cells (jcells g v J) 87 (0, 0))
  recs : ∃ vs, w.ownsRow base 37 1 v J.L.length vs ∧ RowsV w vs J.L ∧ RIn R vs ∧ RIn (fun b => ¬ jIn gj v b) vs
  ge : base ≤ gj
  ok : J.Ok
namespace JrAt
variable {w w' : World} {base gj g : Nat} {R : Nat → Prop} {v : Value} {J : Jl.Jn}
theorem lt (h : JrAt w base gj g R v J) : gj < w.heap.size := (Array.getElem?_eq_some_iff.1 h.cells).1
theorem keep (h : JrAt w base gj g R v J) (k : Bw w w') : JrAt w' base gj g R v J := by
  obtain ⟨vs, h1, h2, h3⟩ := h.recs
  exact ⟨(k.block gj h.lt).trans h.cells, ⟨vs, own_keep h1 k, h2.keep k, h3⟩, h.ge, h.ok⟩
theorem keepx {P : Nat → Prop} (h : JrAt w base gj g R v J) (k : Bx P w w') (h1 : ¬ P gj) (h2 : ∀ b, v.ownBlock = some b → ¬ P b) (h3 : ∀ b, R b → ¬ P b) : JrAt w' base gj g R v J := by
  obtain ⟨vs, k1, k2, k3⟩ := h.recs
  exact ⟨(k.block gj h.lt h1).trans h.cells, ⟨vs, own_keepx15 k1 k h2, k2.keepx k (k3.1.mono h3), k3⟩, h.ge, h.ok⟩
theorem more {R' : Nat → Prop} (h : JrAt w base gj g R v J) (k : ∀ b, R b → R' b) : JrAt w base gj g R' v J := by
  obtain ⟨vs, k1, k2, k3⟩ := h.recs
  exact ⟨h.cells, ⟨vs, k1, k2, k3.1.mono k, k3.2⟩, h.ge, h.ok⟩
theorem low (h : JrAt w base gj g R v J) : JrAt w base gj g (fun b => R b ∧ b < w.heap.size) v J := by
  obtain ⟨vs, k1, k2, k3⟩ := h.recs
  exact ⟨h.cells, ⟨vs, k1, k2, fun v hv b o n c e h0 => ⟨k3.1 v hv b o n c e h0, k2.low v hv b o n c e h0⟩, k3.2⟩, h.ge, h.ok⟩
theorem base_le {base' : Nat} (h : JrAt w base gj g R v J) (k : base' ≤ base) : JrAt w base' gj g R v J := by
  obtain ⟨vs, k1, k2, k3⟩ := h.recs
  exact ⟨h.cells, ⟨vs, own_low15 k1 k, k2, k3⟩, Nat.le_trans k h.ge, h.ok⟩
theorem jge (h : JrAt w base gj g R v J) : ∀ b, jIn gj v b → base ≤ b := fun b hb => by
  obtain ⟨vs, k1, _⟩ := h.recs
  rcases hb with rfl | hb
  · exact h.ge
  · exact own_ge k1 b hb
theorem jlow (h : JrAt w base gj g R v J) : ∀ b, jIn gj v b → b < w.heap.size := fun b hb => by
  obtain ⟨vs, k1, _⟩ := h.recs
  rcases hb with rfl | hb
  · exact h.lt
  · rcases k1.2 with ⟨rfl, _⟩ | ⟨g', cap, cur, rfl, _, hg, _⟩
    · cases hb
    · simp only [Value.ownBlock, Option.some.injEq] at hb
      subst hb
      exact (Array.getElem?_eq_some_iff.1 hg).1
theorem form (h : JrAt w base gj g R v J) : ∃ A c, v = .slice A J.L.length c := by
  obtain ⟨vs, k1, _⟩ := h.recs
  rcases k1.2 with ⟨rfl, h0⟩ | ⟨g', cap, cur, rfl, _⟩
  · exact ⟨none, 0, by rw [h0]⟩
  · exact ⟨_, _, rfl⟩
theorem c0 (h : JrAt w base gj g R v J) : w.cell? ⟨gj, 0, none⟩ = some (.pointer (some ⟨g, 0, none⟩)) := cell_of_row w gj 0 _ _ _ h.cells
theorem c1 (h : JrAt w base gj g R v J) : w.cell? ⟨gj, 1, none⟩ = some (.int .i64 (J.r0 : Int)) := cell_of_row w gj 1 _ _ _ h.cells
theorem c2 (h : JrAt w base gj g R v J) : w.cell? ⟨gj, 2, none⟩ = some (.int .i64 (J.rc : Int)) := cell_of_row w gj 2 _ _ _ h.cells
theorem c3 (h : JrAt w base gj g R v J) : w.cell? ⟨gj, 3, none⟩ = some (.int .u64 (J.h.n : Int)) := cell_of_row w gj 3 _ _ _ h.cells
theorem c4 (h : JrAt w base gj g R v J) : w.cell? ⟨gj, 4, none⟩ = some (.int .i64 (J.h.area : Int)) := cell_of_row w gj 4 _ _ _ h.cells
theorem c5 (h : JrAt w base gj g R v J) : w.cell? ⟨gj, 5, none⟩ = some (.int .i64 (J.h.len : Int)) := cell_of_row w gj 5 _ _ _ h.cells
theorem c6 (h : JrAt w base gj g R v J) : w.cell? ⟨gj, 6, none⟩ = some v := cell_of_row w gj 6 _ _ _ h.cells
theorem c7 (h : JrAt w base gj g R v J) : w.cell? ⟨gj, 7, none⟩ = some (.bool J.dead) := cell_of_row w gj 7 _ _ _ h.cells
theorem fz (h : JrAt w base gj g R v J) (k : Nat) : w.frozen? ⟨gj, k, none⟩ = false := frozen_of_row w gj k _ _ h.cells
end JrAt
/-- how opened ends -/
def OpenedV (w : World) (g : Nat) (S : Dsk) (r0 rc : Nat) (e : Ending) (w' : World) : Prop := Bw w w' ∧
  ((S.dead = true ∧ e = .returned (.tuple #[.pointer none, .int .i64 140])) ∨ (S.dead = false ∧ Jl.opn S r0 rc = none ∧ e = thrown15) ∨
    (S.dead = false ∧ ∃ J gj v, Jl.opn S r0 rc = some J ∧ e = .returned (.tuple #[.pointer (some ⟨gj, 0, none⟩), .int .i64 0]) ∧ JrAt w' w.heap.size gj g (fun b => w.heap.size ≤ b) v J))
set_option maxRecDepth 100000 in
set_option maxHeartbeats 4000000 in
theorem jopened_any {w : World} {g lb gm : Nat} {S : Dsk} (h : DiskAt w g lb gm S) (r0 rc : Nat) (h4 : 4 ≤ rc) (hin : r0 + rc ≤ S.n) :
    Calls Try.prog 50 #[.pointer (some ⟨g, 0, none⟩), .agg #[.int .i64 (r0 : Int), .int .i64 (rc : Int)]] w fun e w' => OpenedV w g S r0 rc e w' := by
  have hn := h.ok.n1
  have rcb : rc ≤ 65536 := by omega
  have r0b : r0 ≤ 65536 := by omega
  obtain ⟨z, hz⟩ : ∃ z, Hid (w.heap.size = z) := ⟨_, rfl⟩
  obtain ⟨W1, hW1⟩ : ∃ W, Hid (w.alloc (.cells #[.int .i64 (r0 : Int), .int .i64 (rc : Int)] 23) = W) := ⟨_, rfl⟩
  have hb1 : Bw w W1 := by rw [← hW1.out]; exact Below.alloc (Bw.refl _) (Nat.le_refl _) _
  have hg1 : W1.heap[z]? = some (.cells #[.int .i64 (r0 : Int), .int .i64 (rc : Int)] 23 (0, 0)) := by rw [← hW1.out, ← hz.out]; exact heap_alloc_new _ _
  have HC : Hid (∀ W, Bw W1 W → W.cell? ⟨z, 0, none⟩ = some (.int .i64 (r0 : Int)) ∧ W.cell? ⟨z, 1, none⟩ = some (.int .i64 (rc : Int))) := fun W k => by
    have hg := (k.block z (Array.getElem?_eq_some_iff.1 hg1).1).trans hg1
    exact ⟨cell_of_row W z 0 _ _ _ hg, cell_of_row W z 1 _ _ _ hg⟩
  obtain ⟨c0, c1⟩ := HC.out W1 (Bw.refl _)
  have hd1 := h.keep hb1
  cases hde : S.dead
-- OPENED
  · have HR : Calls Try.prog 15 #[.pointer (some ⟨g, 0, none⟩), .int .i64 (r0 : Int), .int .i64 2] W1 fun e w' => ∃ b, e = .returned (.tuple #[.slice (some ⟨b, 0, none⟩) 128 128, .int .i64 0]) ∧ W1.heap.size ≤ b ∧ BlockIs w' b 128 (fun i => S.read (64 * r0 + i)) ∧ Bw W1 w' := read_ok hd1 r0 2 hde (by omega)
    obtain ⟨rm, hrm⟩ : ∃ r, Hid (Jl.room rc = r) := ⟨_, rfl⟩
    have rmb : rm ≤ 4294967295 := by rw [← hrm.out]; have := Jl.room_le rcb; omega
    obtain ⟨H, hH⟩ : ∃ H, Hid (Jl.holds S r0 rc = H) := ⟨_, rfl⟩
    have hfit : Jl.Fit H (Jl.room rc) := by rw [← hH.out]; exact Jl.hold_fit (fun i => hd1.ok.read _) _
    obtain ⟨st, hst⟩ : ∃ s, Hid (Jl.start r0 rc H.area = s) := ⟨_, rfl⟩
    obtain ⟨k, hk⟩ : ∃ k, Hid (Jl.secs H.len = k) := ⟨_, rfl⟩
    have hins : st + k ≤ S.n := by
      rw [← hst.out, ← hk.out]
      exact Nat.le_trans (Jl.inside (Nat.le_trans (by decide) h4) hfit.2.1 hfit.2.2) hin
    have hlk : H.len ≤ k * 64 := by rw [← hk.out]; unfold Jl.secs; omega
    have hHn := hfit.1
    have hHa := hfit.2.1
    have hHl : H.len ≤ 2097088 := Nat.le_trans hfit.2.2 (Jl.room_le rcb)
    have HFit : Hid (Jl.Fit H (Jl.room rc)) := hfit
    have HRo : Hid (∀ W, Calls Try.prog 54 #[.agg #[.int .i64 (r0 : Int), .int .i64 (rc : Int)]] W fun e w' => e = .returned (.int .i64 (rm : Int)) ∧ Bw W w') := fun W => by rw [← hrm.out]; exact roomof_any _ rc h4 rcb W
    have HHo : Hid (∀ W b, BlockIs W b 128 (fun i => S.read (64 * r0 + i)) → Calls Try.prog 65 #[.slice (some ⟨b, 0, none⟩) 128 128, .int .i64 (rm : Int)] W fun e w' => e = .returned (.agg (hcell H)) ∧ Bw W w') := fun W b hb => by
      have := jholding_any b rm _ rmb W (hb.row (fun i => hd1.ok.read _))
      rw [← hrm.out] at this
      rw [← hrm.out, ← hH.out]
      exact this
    have HSt : Hid (∀ W, Calls Try.prog 66 #[.agg #[.int .i64 (r0 : Int), .int .i64 (rc : Int)], .int .i64 (H.area : Int)] W fun e w' => e = .returned (.int .i64 (st : Int)) ∧ Bw W w') := fun W => by rw [← hst.out]; exact startof_any r0 rc H.area h4 rcb r0b hHa W
    have HSc : Hid (∀ W, Calls Try.prog 67 #[.int .i64 (H.len : Int)] W fun e w' => e = .returned (.int .i64 (k : Int)) ∧ w' = W) := fun W => by rw [← hk.out]; exact jsectors_any H.len (by omega) W
    have HR2 : Hid (∀ W, Bw W1 W → Calls Try.prog 15 #[.pointer (some ⟨g, 0, none⟩), .int .i64 (st : Int), .int .i64 (k : Int)] W fun e w' => ∃ b, e = .returned (.tuple #[.slice (some ⟨b, 0, none⟩) (k * 64) (k * 64), .int .i64 0]) ∧ W.heap.size ≤ b ∧ BlockIs w' b (k * 64) (fun i => S.read (64 * st + i)) ∧ Bw W w') := fun W hb => read_ok (hd1.keep hb) st k hde hins
    have HD : Hid (Jl.opn S r0 rc = (Jl.spl (Jl.data (fun i => S.read (64 * st + i)) H.len)).map fun L => ⟨r0, rc, H, L, false⟩) := by
      show _ = _
      unfold Jl.opn Jl.dat
      rw [hH.out, hst.out]
    have HRd : Hid (∀ i, 0 ≤ S.read i ∧ S.read i < 256) := fun i => hd1.ok.read i
    have hz0 := zero_head15
    have tok1 : Hid (z = z) := rfl
    clear h hd1 hfit hg1
    go_enter Try.func50, Try.ntmps50
    go_wp2_with (first
      | rw [hW1.out, hz.out]
      | (clear tok1; go_at_call 15; refine HR.mono ?_; rintro e W2 ⟨b2, rfl, hb2, hB2, hbw2⟩; clear HR; obtain ⟨d0, d1⟩ := HC.out W2 hbw2)
      | (go_at_call 54; refine (HRo.out W2).mono ?_; rintro e W3 ⟨rfl, hbw3⟩; clear HRo)
      | (go_at_call 65; refine (HHo.out W3 b2 (hB2.keep hbw3)).mono ?_; rintro e W4 ⟨rfl, hbw4⟩; clear HHo; have tok2 : Hid (z = z) := rfl; obtain ⟨W5, hW5⟩ : ∃ W, Hid (W4.alloc (.cells (hcell H) 85) = W) := ⟨_, rfl⟩; obtain ⟨z8, hz8⟩ : ∃ z, Hid (W4.heap.size = z) := ⟨_, rfl⟩; have hA5 : HedAt W5 z8 H := (by rw [← hW5.out, ← hz8.out]; exact heap_alloc_new _ _); have hbw5 : Bw W1 W5 := ((hbw2.trans hbw3).trans hbw4).trans (by rw [← hW5.out]; exact Below.alloc (Bw.refl _) (Nat.le_refl _) _))
      | (clear tok2; refine wpList_store_row rfl 85 _ _ rfl W4.heap.size (hcell H) rfl rfl 85 (hcell Jl.no) (heap_alloc_new _ _) info_head15 rfl (hcell_all _) ?_; rw [setRow_alloc_new, hW5.out, hz8.out]))
    clear hB2 hbw2 hbw3 hbw4 d0 d1
    have HC5 : Hid (∀ W, Bw W5 W → W.cell? ⟨z, 0, none⟩ = some (.int .i64 (r0 : Int)) ∧ W.cell? ⟨z, 1, none⟩ = some (.int .i64 (rc : Int)) ∧ W.cell? ⟨z8, 0, none⟩ = some (.int .u64 (H.n : Int)) ∧ W.cell? ⟨z8, 1, none⟩ = some (.int .i64 (H.area : Int)) ∧ W.cell? ⟨z8, 2, none⟩ = some (.int .i64 (H.len : Int))) := fun W k => by
      obtain ⟨e0, e1⟩ := HC.out W (hbw5.trans k)
      have hA := hA5.keep k
      exact ⟨e0, e1, cell_of_row W z8 0 _ _ _ hA, cell_of_row W z8 1 _ _ _ hA, cell_of_row W z8 2 _ _ _ hA⟩
    go_region_held3 (fun w' => w'.cell? ⟨z, 0, none⟩ = some (.int .i64 (r0 : Int)) ∧ w'.cell? ⟨z, 1, none⟩ = some (.int .i64 (rc : Int)) ∧ w'.cell? ⟨z8, 0, none⟩ = some (.int .u64 (H.n : Int)) ∧ w'.cell? ⟨z8, 1, none⟩ = some (.int .i64 (H.area : Int)) ∧ w'.cell? ⟨z8, 2, none⟩ = some (.int .i64 (H.len : Int)))
      (first | exact HC5.out _ (Below.drew (Bw.refl _)) | exact HC5.out _ hbw6 | exact HC5.out _ hbw7 | assumption)
      (first
        | (go_at_call 66; refine (HSt.out _).mono ?_; rintro e W6 ⟨rfl, hbw6'⟩; have hbw6 : Bw W5 W6 := Bw.trans ((Bw.refl W5).drew) hbw6')
        | (go_at_call 67; refine (HSc.out _).mono ?_; rintro e w6 ⟨rfl, hw⟩; obtain rfl := hw.symm)
        | (go_at_call 15; refine (HR2.out _ (hbw5.trans hbw6)).mono ?_; rintro e W7 ⟨b7, rfl, hb7, hB7, hbw7'⟩; have hbw7 : Bw W5 W7 := hbw6.trans hbw7'))
    obtain ⟨N, hN⟩ : ∃ N, Hid (k * 64 = N) := ⟨_, rfl⟩
    rw [hN.out] at hB7 hlk ⊢
    go_wp2
    have hR7 : RowAt W7.drew (some ⟨b7, 0, none⟩) H.len (fun i => S.read (64 * st + i)) := by
      have h1 := (hB7.keep ((Bw.refl W7).drew)).row (fun i => HRd.out _)
      rcases h1.1 with h0 | ⟨b', o', e', hc'⟩
      · exact ⟨.inl (by omega), h1.2⟩
      · exact ⟨.inr ⟨b', o', e', fun i hi => hc' i (by omega)⟩, h1.2⟩
    have HX := jrecordsof_any b7 H.len _ W7.drew (by omega) hR7
    have hl1 : (H.len : Int) ≤ (N : Int) := by omega
    have hl0 : (0 : Int) ≤ (H.len : Int) := Int.natCast_nonneg _
    have hb7z : Hid (w.heap.size ≤ b7) := Nat.le_trans (hb1.trans (hbw5.trans hbw6)).size hb7
    have hb7lt : Hid (b7 < W7.drew.heap.size) := by obtain ⟨cur, hcu, _⟩ := hB7; exact (Array.getElem?_eq_some_iff.1 hcu).1
    have hbwA : Bw w W7.drew := (hb1.trans (hbw5.trans hbw7)).trans ((Bw.refl _).drew)
    cases hsp : Jl.spl (Jl.data (fun i => S.read (64 * st + i)) H.len) with
    | none =>
      have hend : Hid (∀ W, Bw W7.drew W → OpenedV w g S r0 rc thrown15 W) := fun W k => ⟨hbwA.trans k, .inr (.inl ⟨hde, by rw [HD.out, hsp]; rfl, rfl⟩)⟩
      have HX2 : Calls Try.prog 68 #[.slice (some ⟨b7, 0, none⟩) H.len H.len] W7.drew fun e w' => e = thrown15 ∧ Bw W7.drew w' := HX.mono (fun e w' h => by
        rcases h with ⟨h1, ⟨_, h2⟩ | ⟨L, v, vs, h2, _⟩⟩
        · exact ⟨h2, h1⟩
        · rw [hsp] at h2; cases h2)
      clear HX hB7 hR7
      obtain ⟨q0, q1, q2, q3, q4⟩ := HC5.out W7.drew (hbw7.trans ((Bw.refl _).drew))
      refine wp_region_held_drew (S := (fun w' => w'.cell? ⟨z, 0, none⟩ = some (.int .i64 (r0 : Int)) ∧ w'.cell? ⟨z, 1, none⟩ = some (.int .i64 (rc : Int)) ∧ w'.cell? ⟨z8, 0, none⟩ = some (.int .u64 (H.n : Int)) ∧ w'.cell? ⟨z8, 1, none⟩ = some (.int .i64 (H.area : Int)) ∧ w'.cell? ⟨z8, 2, none⟩ = some (.int .i64 (H.len : Int)))) (by kernel_rfl) (⟨q0, q1, q2, q3, q4⟩) (fun hHeld => ?_)
      refine wpAnyH_take (i := 0) (v := ?_) rfl (by kernel_rfl) (by kernel_rfl) (by kernel_rfl) (fun _ _ _ h => h) (Or.inl ⟨by rfl, ?_⟩) (by assumption) ?_
      rotate_left
      · intro w hSw; (try dsimp only at hSw); go_simp; all_goals (with_reducible rfl)
      try simp only [Act.put, List.setIfInBounds_toArray, List.set_cons_zero, List.set_cons_succ, List.getElem_toArray, List.getElem_cons_succ, List.getElem_cons_zero]
      refine wpAnyH_take (i := 1) (v := ?_) rfl (by kernel_rfl) (by kernel_rfl) (by kernel_rfl) (fun _ _ _ h => h) (Or.inl ⟨by rfl, ?_⟩) (by assumption) ?_
      rotate_left
      · intro w hSw; (try dsimp only at hSw); go_simp; all_goals (with_reducible rfl)
      try simp only [Act.put, List.setIfInBounds_toArray, List.set_cons_zero, List.set_cons_succ, List.getElem_toArray, List.getElem_cons_succ, List.getElem_cons_zero]
      refine wpAnyH_take (i := 2) (v := ?_) rfl (by kernel_rfl) (by kernel_rfl) (by kernel_rfl) (fun _ _ _ h => h) (Or.inl ⟨by rfl, ?_⟩) (by assumption) ?_
      rotate_left
      · intro w hSw; (try dsimp only at hSw); go_simp; all_goals (with_reducible rfl)
      try simp only [Act.put, List.setIfInBounds_toArray, List.set_cons_zero, List.set_cons_succ, List.getElem_toArray, List.getElem_cons_succ, List.getElem_cons_zero]
      refine wpAnyH_take (i := 3) (v := ?_) rfl (by kernel_rfl) (by kernel_rfl) (by kernel_rfl) (fun _ _ _ h => h) (Or.inl ⟨by rfl, ?_⟩) (by assumption) ?_
      rotate_left
      · intro w hSw; (try dsimp only at hSw); go_simp; all_goals (with_reducible rfl)
      try simp only [Act.put, List.setIfInBounds_toArray, List.set_cons_zero, List.set_cons_succ, List.getElem_toArray, List.getElem_cons_succ, List.getElem_cons_zero]
      refine wpAnyH_take (i := 4) (v := ?_) rfl (by kernel_rfl) (by kernel_rfl) (by kernel_rfl) (fun _ _ _ h => h) (Or.inl ⟨by rfl, ?_⟩) (by assumption) ?_
      rotate_left
      · intro w hSw; (try dsimp only at hSw); go_simp; all_goals (with_reducible rfl)
      try simp only [Act.put, List.setIfInBounds_toArray, List.set_cons_zero, List.set_cons_succ, List.getElem_toArray, List.getElem_cons_succ, List.getElem_cons_zero]
      refine wpAnyH_take (i := 5) (v := ?_) rfl (by kernel_rfl) (by kernel_rfl) (by kernel_rfl) (fun _ _ _ h => h) (Or.inl ⟨by rfl, ?_⟩) (by assumption) ?_
      rotate_left
      · intro w hSw; (try dsimp only at hSw); go_simp; all_goals (with_reducible rfl)
      try simp only [Act.put, List.setIfInBounds_toArray, List.set_cons_zero, List.set_cons_succ, List.getElem_toArray, List.getElem_cons_succ, List.getElem_cons_zero]
      refine wpAnyH_take (i := 6) (v := ?_) rfl (by kernel_rfl) (by kernel_rfl) (by kernel_rfl) (fun _ _ _ h => h) (Or.inl ⟨by rfl, ?_⟩) (by assumption) ?_
      rotate_left
      · intro w hSw; (try dsimp only at hSw); go_simp; all_goals (with_reducible rfl)
      try simp only [Act.put, List.setIfInBounds_toArray, List.set_cons_zero, List.set_cons_succ, List.getElem_toArray, List.getElem_cons_succ, List.getElem_cons_zero]
      refine wpAnyH_take (i := 7) (v := ?_) rfl (by kernel_rfl) (by kernel_rfl) (by kernel_rfl) (fun _ _ _ h => h) (Or.inl ⟨by rfl, ?_⟩) (by assumption) ?_
      rotate_left
      · intro w hSw; (try dsimp only at hSw); go_simp; all_goals (with_reducible rfl)
      try simp only [Act.put, List.setIfInBounds_toArray, List.set_cons_zero, List.set_cons_succ, List.getElem_toArray, List.getElem_cons_succ, List.getElem_cons_zero]
      refine wpAnyH_take (i := 8) (v := ?_) rfl (by kernel_rfl) (by kernel_rfl) (by kernel_rfl) (fun _ _ _ h => h) (Or.inl ⟨by rfl, ?_⟩) (by assumption) ?_
      rotate_left
      · intro w hSw; (try dsimp only at hSw); go_simp; all_goals (with_reducible rfl)
      try simp only [Act.put, List.setIfInBounds_toArray, List.set_cons_zero, List.set_cons_succ, List.getElem_toArray, List.getElem_cons_succ, List.getElem_cons_zero]
      refine wpAnyH_ready (rs := [9]) (by kernel_rfl) (by simp) ?_
      refine AllReadyH.cons rfl (fun K hK => ?_) AllReadyH.nil
      go_simp
      go_at_call 68
      refine HX2.mono ?_
      rintro e w8 ⟨rfl, hb8⟩
      exact ⟨rfl, hend.out w8 hb8⟩
    | some L =>
      have hend : Hid (∀ W v vs, Bw W7.drew W → W.ownsRow W7.drew.heap.size 37 1 v L.length vs → RowsV W vs L → RIn (· = b7) vs → Bw w (W.alloc (.cells (jcells g v ⟨r0, rc, H, L, false⟩) 87)) ∧ OpenedV w g S r0 rc (.returned (.tuple #[.pointer (some ⟨W.heap.size, 0, none⟩), .int .i64 0])) (W.alloc (.cells (jcells g v ⟨r0, rc, H, L, false⟩) 87))) := fun W v vs k hown hrow hin2 => by
        have k2 : Bw W (W.alloc (.cells (jcells g v ⟨r0, rc, H, L, false⟩) 87)) := Below.alloc (Bw.refl _) (Nat.le_refl _) _
        refine ⟨(hbwA.trans k).trans k2, (hbwA.trans k).trans k2, .inr (.inr ⟨hde, ⟨r0, rc, H, L, false⟩, W.heap.size, v, by rw [HD.out, hsp]; rfl, rfl, heap_alloc_new _ _, ⟨vs, own_keep (own_low15 hown hbwA.size) k2, hrow.keep k2, hin2.mono (fun b e => by have e' : b = b7 := e; rw [e']; exact hb7z.out), hin2.mono (fun b e hj => by have e' : b = b7 := e; have h7 := hb7lt.out; have hk := k.size; exact Or.elim hj (fun hj => by omega) (fun hj => by have := own_ge hown b hj; omega))⟩, (hbwA.trans k).size, ⟨h4, rcb, r0b, HFit.out, ?_⟩⟩)⟩
        have := Jl.spl_len hsp
        rw [Jl.data_len] at this
        exact Nat.le_trans this (Nat.le_trans hHl (by decide))
      have HX2 : Calls Try.prog 68 #[.slice (some ⟨b7, 0, none⟩) H.len H.len] W7.drew fun e w' => ∃ A c, e = .returned (.slice A L.length c) ∧ Hid (∃ vs, Bw W7.drew w' ∧ w'.ownsRow W7.drew.heap.size 37 1 (.slice A L.length c) L.length vs ∧ RowsV w' vs L ∧ RIn (· = b7) vs) := HX.mono (fun e w' h => by
        rcases h with ⟨h1, ⟨h2, _⟩ | ⟨L', v, vs, h2, h3, h4, h5, h6⟩⟩
        · rw [hsp] at h2; cases h2
        · rw [hsp] at h2; cases h2
          obtain ⟨A, c, rfl, _⟩ := mat_of_own h4 h5
          exact ⟨A, c, h3, vs, h1, h4, h5, h6⟩)
      obtain ⟨ln, hln⟩ : ∃ n, Hid (L.length = n) := ⟨_, rfl⟩
      rw [hln.out] at HX2 hend
      clear HX hB7 hR7
      obtain ⟨q0, q1, q2, q3, q4⟩ := HC5.out W7.drew (hbw7.trans ((Bw.refl _).drew))
      go_region_held3 (fun w' => w'.cell? ⟨z, 0, none⟩ = some (.int .i64 (r0 : Int)) ∧ w'.cell? ⟨z, 1, none⟩ = some (.int .i64 (rc : Int)) ∧ w'.cell? ⟨z8, 0, none⟩ = some (.int .u64 (H.n : Int)) ∧ w'.cell? ⟨z8, 1, none⟩ = some (.int .i64 (H.area : Int)) ∧ w'.cell? ⟨z8, 2, none⟩ = some (.int .i64 (H.len : Int)))
        (first | exact ⟨q0, q1, q2, q3, q4⟩ | exact HC5.out _ hbw8 | exact HC5.out _ (Below.alloc hbw8 hbw8.size _) | assumption)
        (first
          | (go_at_call 68; refine HX2.mono ?_; rintro e W8 ⟨A8, c8, rfl, hv⟩; obtain ⟨vs, hbw8', hown8, hrow8, hin8⟩ := hv.out; have hbw8 : Bw W5 W8 := (hbw7.trans ((Bw.refl _).drew)).trans hbw8'))
      go_wp2
      go_ret2
      exact (hend.out W8 _ vs hbw8' hown8 hrow8 hin8).2
-- /OPENED
  · have hre : S.readE (r0 : Int) 2 = 140 := by unfold Dsk.readE; rw [hde, if_pos rfl]
    have HR := read_bad hd1 (r0 : Int) 2 (by omega) (by rw [hre]; decide)
    rw [hre] at HR
    have hw' : True := trivial
    go_enter Try.func50, Try.ntmps50
    go_wp2_with (first
      | rw [hW1.out, hz.out]
      | (go_at_call 15; refine HR.mono ?_; rintro e w2 ⟨rfl, hw⟩; obtain rfl := hw.symm))
    go_ret2
    exact ⟨hb1, .inl ⟨hde, rfl⟩⟩
end Go.Proofs.Ytppknadflmjefaa

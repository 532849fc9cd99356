/- Layer 15: wakes. -/
import Derived.Test.YtppknadflmjefaaWR
namespace Go.Proofs.Ytppknadflmjefaa
open Go.RowKit Go.Deep Go.Maps
set_option linter.unusedVariables false
set_option linter.unusedSimpArgs false

theorem by_const2 (w : World) (o : Obj) (C : Array Value) (n c : Nat) : (convert 37 37 (.slice (some ⟨w.heap.size + 1, 0, none⟩) n c)).run Try.prog ((w.alloc o).alloc (.cells C 5)) = .ok (.slice (some ⟨w.heap.size + 1, 0, none⟩) n c) ((w.alloc o).alloc (.cells C 5 (C.size, C.size + 1))) := by
  have := Lib.run_convert_bytes_const (P := Try.prog) (w.alloc o) 37 5 C n c Try.underlying37 Try.underlying5
  rwa [size_alloc] at this
/-- the two records as they are written -/
theorem lit_two (W : World) (f1 f2 : Nat × Nat) : MatV (((W.alloc (.cells #[.int .u8 97] 5 f1)).alloc (.cells #[.int .u8 98, .int .u8 99] 5 f2)).alloc (.cells #[.slice (some ⟨W.heap.size, 0, none⟩) 1 1, .slice (some ⟨W.heap.size + 1, 0, none⟩) 2 2] 37)) (some ⟨W.heap.size + 1 + 1, 0, none⟩) 2 [.slice (some ⟨W.heap.size, 0, none⟩) 1 1, .slice (some ⟨W.heap.size + 1, 0, none⟩) 2 2] Jl.wl := by
  obtain ⟨W1, h1⟩ : ∃ W1, W.alloc (.cells #[.int .u8 97] 5 f1) = W1 := ⟨_, rfl⟩
  have s1 : W1.heap.size = W.heap.size + 1 := by rw [← h1]; exact size_alloc _ _
  have b1 : W1.heap[W.heap.size]? = some (.cells #[.int .u8 97] 5 f1) := by rw [← h1]; exact heap_alloc_new _ _
  rw [h1, ← s1]
  obtain ⟨W2, h2⟩ : ∃ W2, W1.alloc (.cells #[.int .u8 98, .int .u8 99] 5 f2) = W2 := ⟨_, rfl⟩
  have s2 : W2.heap.size = W1.heap.size + 1 := by rw [← h2]; exact size_alloc _ _
  have b2 : W2.heap[W1.heap.size]? = some (.cells #[.int .u8 98, .int .u8 99] 5 f2) := by rw [← h2]; exact heap_alloc_new _ _
  have k12 : Bw W1 W2 := by rw [← h2]; exact Below.alloc (Bw.refl _) (Nat.le_refl _) _
  rw [h2, ← s2]
  have k23 : Bw W2 (W2.alloc (.cells #[.slice (some ⟨W.heap.size, 0, none⟩) 1 1, .slice (some ⟨W1.heap.size, 0, none⟩) 2 2] 37)) := Below.alloc (Bw.refl _) (Nat.le_refl _) _
  have b3 := heap_alloc_new W2 (.cells #[.slice (some ⟨W.heap.size, 0, none⟩) 1 1, .slice (some ⟨W1.heap.size, 0, none⟩) 2 2] 37)
  obtain ⟨W3, h3⟩ : ∃ W3, W2.alloc (.cells #[.slice (some ⟨W.heap.size, 0, none⟩) 1 1, .slice (some ⟨W1.heap.size, 0, none⟩) 2 2] 37) = W3 := ⟨_, rfl⟩
  rw [h3] at k23 b3 ⊢
  have b1' := (k23.block _ (by rw [s2]; have := (Array.getElem?_eq_some_iff.1 b1).1; omega)).trans ((k12.block _ (Array.getElem?_eq_some_iff.1 b1).1).trans b1)
  have b2' := (k23.block _ (Array.getElem?_eq_some_iff.1 b2).1).trans b2
  have r1 : RowV W3 (.slice (some ⟨W.heap.size, 0, none⟩) 1 1) [97] := ⟨_, 1, rfl, Nat.le_refl _, fun e => (by cases e), by decide, .inr ⟨_, 0, rfl, fun i hi => by
    have hi' : i < 1 := hi
    obtain rfl : i = 0 := by omega
    exact cell_of_row W3 W.heap.size 0 _ _ _ b1'⟩, Jl.rowL_bd (by show ∀ b ∈ [97], b < 256; decide)⟩
  have r2 : RowV W3 (.slice (some ⟨W1.heap.size, 0, none⟩) 2 2) [98, 99] := ⟨_, 2, rfl, Nat.le_refl _, fun e => (by cases e), by decide, .inr ⟨_, 0, rfl, fun i hi => by
    have hi' : i < 2 := hi
    rcases i with _ | _ | i
    · exact cell_of_row W3 W1.heap.size 0 _ _ _ b2'
    · exact cell_of_row W3 W1.heap.size 1 _ _ _ b2'
    · omega⟩, Jl.rowL_bd (by show ∀ b ∈ [98, 99], b < 256; decide)⟩
  refine ⟨rfl, .inr ⟨_, 0, rfl, fun i v hv => ?_⟩, (RowsV.one r1).append (RowsV.one r2)⟩
  rw [Nat.zero_add, cell_of_row W3 W2.heap.size i _ _ _ b3]
  rcases i with _ | _ | i
  · exact hv
  · exact hv
  · cases hv
theorem lit_in {W : World} {b n : Nat} (h : ArgIn (some ⟨W.heap.size + 1 + 1, 0, none⟩) n [.slice (some ⟨W.heap.size, 0, none⟩) 1 1, .slice (some ⟨W.heap.size + 1, 0, none⟩) 2 2] b) : W.heap.size ≤ b := by
  rcases h with ⟨o, e, _⟩ | ⟨u, hu, o, m, c, e, _⟩
  · cases e; omega
  · simp only [List.mem_cons, List.not_mem_nil, or_false] at hu
    rcases hu with rfl | rfl <;> cases e <;> omega
theorem lit_bw (W : World) (o1 o2 o3 : Obj) : Bw W (((W.alloc o1).alloc o2).alloc o3) := Below.alloc (Below.alloc (Below.alloc (Bw.refl _) (Nat.le_refl _) _) (by rw [size_alloc]; omega) _) (by rw [size_alloc, size_alloc]; omega) _
theorem copy_mat {w w' : World} {n : Nat} {L : List (List Nat)} {g : Nat} {vs : List Value} (h1 : w'.ownsRow w.heap.size 37 1 (.slice (some ⟨g, 0, none⟩) n n) n vs) (h2 : RowsV w' vs L) : MatV w' (some ⟨g, 0, none⟩) n vs L := by
  obtain ⟨A, c, e, _, _, hM, _⟩ := mat_of_own h1 h2
  cases e
  exact hM
set_option maxRecDepth 100000 in
set_option maxHeartbeats 8000000 in
theorem wakes15_any (w : World) : Calls Try.prog 9 #[] w fun e w' => e = .returned (.bool true) ∧ Bw w w' := by
  have HN := new_ok 10 (by omega) (by omega) w
  have kc := fun (w : World) (C : Array Value) (n c : Nat) => Lib.run_convert_bytes_const (P := Try.prog) w 37 5 C n c Try.underlying37 Try.underlying5
  have kc2 := fun (w : World) (o : Obj) (C : Array Value) (n c : Nat) => by_const2 w o C n c
  have hI0 := Jl.inv_new 10 0 10 (by decide) (by decide) (by decide)
  obtain ⟨S1, J1, ha1, hI1, hL1, hr01, hrc1, hn1, hl1, hS1n⟩ := Jl.wk_add
  have HO1 : Hid (∀ W g lb gm, DiskAt W g lb gm (Dsk.new 10) → Calls Try.prog 19 #[.pointer (some ⟨g, 0, none⟩), .agg #[.int .i64 0, .int .i64 10]] W fun e w' => ∃ gj, e = .returned (.tuple #[.pointer (some ⟨gj, 0, none⟩), .int .i64 0]) ∧ Hid (∃ v, JrAt w' W.heap.size gj g (fun b => W.heap.size ≤ b) v ⟨0, 10, Jl.no, [], false⟩) ∧ Bw W w') := fun W g lb gm hd => by
    have h := jopen_any hd 0 10 (by decide) (by decide)
    obtain ⟨e1, e2⟩ := hI0.open_
    have e1' : Jl.openE (Dsk.new 10) 0 10 = 0 := e1
    have e2' : Jl.openJ (Dsk.new 10) 0 10 = some ⟨0, 10, Jl.no, [], false⟩ := e2
    rw [e1', e2'] at h
    exact h.mono (fun e w' hh => by
      obtain ⟨h1, p, v, h2, gj, h3, h4⟩ := hh
      subst h3
      exact ⟨gj, h2, ⟨v, h4⟩, h1⟩)
  have HO2 : Hid (∀ W g lb gm, DiskAt W g lb gm S1 → Calls Try.prog 19 #[.pointer (some ⟨g, 0, none⟩), .agg #[.int .i64 0, .int .i64 10]] W fun e w' => ∃ gj, e = .returned (.tuple #[.pointer (some ⟨gj, 0, none⟩), .int .i64 0]) ∧ Hid (∃ v, JrAt w' W.heap.size gj g (fun b => W.heap.size ≤ b) v J1) ∧ Bw W w') := fun W g lb gm hd => by
    have h := jopen_any hd 0 10 (by decide) (by decide)
    obtain ⟨e1, e2⟩ := hI1.open_
    rw [hr01, hrc1] at e1 e2
    have e1' : Jl.openE S1 0 10 = 0 := e1
    have e2' : Jl.openJ S1 0 10 = some J1 := e2
    rw [e1', e2'] at h
    exact h.mono (fun e w' hh => by
      obtain ⟨h1, p, v, h2, gj, h3, h4⟩ := hh
      subst h3
      exact ⟨gj, h2, ⟨v, h4⟩, h1⟩)
  have HO3 : Hid (∀ W g lb gm, DiskAt W g lb gm S1 → Calls Try.prog 19 #[.pointer (some ⟨g, 0, none⟩), .agg #[.int .i64 0, .int .i64 3]] W fun e w' => e = .returned (.tuple #[.pointer none, .int .i64 1]) ∧ Bw W w') := fun W g lb gm hd => by
    have h := jopen_any hd 0 3 (by decide) (by decide)
    have e1 : Jl.openE S1 0 3 = 1 := if_pos (.inl (by decide))
    have e2 : Jl.openJ S1 0 3 = none := by unfold Jl.openJ; rw [e1]; rfl
    rw [e1, e2] at h
    exact h.mono (fun e w' hh => by
      obtain ⟨h1, p, v, h2, h3, h4⟩ := hh
      subst h3
      exact ⟨h2, h1⟩)
  have HRm : Hid (∀ W g gj v base R, JrAt W base gj g R v ⟨0, 10, Jl.no, [], false⟩ → Calls Try.prog 23 #[.pointer (some ⟨gj, 0, none⟩)] W fun e w' => e = .returned (.int .i64 256) ∧ Bw W w') := fun W g gj v base R hj => jroom_any hj
  have HRm2 : Hid (∀ W g gj v base R, JrAt W base gj g R v J1 → Calls Try.prog 23 #[.pointer (some ⟨gj, 0, none⟩)] W fun e w' => e = .returned (.int .i64 249) ∧ Bw W w') := fun W g gj v base R hj => by
    have := jroom_any hj
    rw [hrc1, hl1] at this
    exact this
  have HCt : Hid (∀ W g gj v base R, JrAt W base gj g R v J1 → Calls Try.prog 24 #[.pointer (some ⟨gj, 0, none⟩)] W fun e w' => e = .returned (.int .u64 1) ∧ w' = W) := fun W g gj v base R hj => by
    have := jcount_any hj
    rw [hn1] at this
    exact this
  have HRc : Hid (∀ W g gj v base R, JrAt W base gj g R v J1 → Calls Try.prog 20 #[.pointer (some ⟨gj, 0, none⟩)] W fun e w' => CopyV W 2 Jl.wl e w') := fun W g gj v base R hj => by
    have := jrecords_any hj
    rw [hL1] at this
    exact this
  have HAd : Hid (∀ W0 W g lb gm gj v, DiskAt W g lb gm (Dsk.new 10) → JrAt W W0 gj g (fun b => W0 ≤ b) v ⟨0, 10, Jl.no, [], false⟩ → (∀ b, dIn g lb gm b → b < W0) → ∀ A vs, MatV W A 2 vs Jl.wl → (∀ b, ArgIn A 2 vs b → ¬ (dIn g lb gm b ∨ jIn gj v b)) → Calls Try.prog 21 #[.pointer (some ⟨gj, 0, none⟩), .slice A 2 2] W fun e w' => e = .returned (.int .i64 0) ∧ Hid (DiskAt w' g lb gm S1 ∧ (∃ v' R', JrAt w' W0 gj g R' v' J1) ∧ Bx (fun b => dIn g lb gm b ∨ jIn gj v b) W w')) := fun W0 W g lb gm gj v hd hj hlo A vs hM hA => by
    have h := jadd_any hj hd (fun b hb hi => by have := hlo b hi; have hb' : W0 ≤ b := hb; omega) (by decide) hI0.few 2 hM (by decide) (by decide) hA
    rw [ha1] at h
    exact h.mono (fun e w' hh => by
      obtain ⟨v', h1, h2, h3, h4, h5⟩ := hh
      exact ⟨h1, h2, ⟨v', _, h3⟩, h4⟩)
  have HSm : Hid (∀ W A B vs us ca cb, MatV W A 2 vs Jl.wl → MatV W B 2 us Jl.wl → Calls Try.prog 27 #[.slice A 2 ca, .slice B 2 cb] W fun e w' => e = .returned (.bool true) ∧ Bw W w') := fun W A B vs us ca cb hA hB => by
    have := rsame15_any ca cb hA hB (by omega) (by omega)
    rw [decide_eq_true rfl] at this
    exact this
  clear hI0 hI1 ha1 hL1 hr01 hrc1 hn1 hl1 hS1n
  have tok1 : Hid (w = w) := rfl
  go_enter Try.func9, Try.ntmps9
  go_wp2_with (first
    | (clear tok1; go_at_call 10; refine HN.mono ?_; rintro e w1 ⟨g, lb, gm, rfl, hd1, hge, hb1⟩; clear HN; have tok2 : Hid (w = w) := rfl)
    | (clear tok2; go_at_call 19; refine (HO1.out _ _ _ _ hd1).mono ?_; rintro e w2 ⟨gj, rfl, hj2, hb2⟩; clear HO1; obtain ⟨v2, hj2⟩ := hj2.out; have hlo2 := hd1.low; have hd2 := hd1.keep hb2; have tok3 : Hid (w = w) := rfl)
    | (clear tok3; go_at_call 23; refine (HRm.out _ _ _ _ _ _ hj2).mono ?_; rintro e w3 ⟨rfl, hb3⟩; clear HRm; have hj3 := hj2.keep hb3; have hd3 := hd2.keep hb3; have tok4 : Hid (w = w) := rfl)
    | (clear tok4; go_at_call 21; refine (HAd.out _ _ _ _ _ _ _ (hd3.keep (lit_bw w3 _ _ _)) (hj3.keep (lit_bw w3 _ _ _)) hlo2 _ _ (lit_two w3 _ _) (fun b hb hi => by have h1 := lit_in hb; rcases hi with hi | hi; exact absurd (hd3.low b hi) (Nat.not_lt.2 h1); exact absurd (hj3.jlow b hi) (Nat.not_lt.2 h1))).mono ?_; rintro e w4 ⟨rfl, hp4⟩; clear HAd; obtain ⟨hd4, ⟨v4, R4, hj4⟩, hx4⟩ := hp4.out; have hbw4 : Bw w w4 := Below.trans ((hb1.trans hb2).trans (hb3.trans (lit_bw w3 _ _ _))) (hx4.below ((hb1.trans hb2).trans (hb3.trans (lit_bw w3 _ _ _))).size (fun b hb => hb.elim (hge b) (fun h => Nat.le_trans hb1.size (hj3.jge b h)))); clear hx4 hj3 hd3 hj2 hd2; have tok5 : Hid (w = w) := rfl)
    | (clear tok5; go_at_call 23; refine (HRm2.out _ _ _ _ _ _ hj4).mono ?_; rintro e w5 ⟨rfl, hb5⟩; clear HRm2; have hj5 := hj4.keep hb5; have hd5 := hd4.keep hb5; have tok6 : Hid (w = w) := rfl)
    | (clear tok6; go_at_call 24; refine (HCt.out _ _ _ _ _ _ hj5).mono ?_; rintro e w6 ⟨rfl, hw⟩; obtain rfl := hw.symm; clear HCt; have tok7 : Hid (w = w) := rfl)
    | (clear tok7; go_at_call 19; refine (HO2.out _ _ _ _ hd5).mono ?_; rintro e w7 ⟨gk, rfl, hj7, hb7⟩; clear HO2; obtain ⟨v7, hj7⟩ := hj7.out; have hd7 := hd5.keep hb7; have tok8 : Hid (w = w) := rfl)
    | (clear tok8; go_at_call 19; refine (HO3.out _ _ _ _ hd7).mono ?_; rintro e w8 ⟨rfl, hb8⟩; clear HO3; have hj8 := hj7.keep hb8; have tok9 : Hid (w = w) := rfl)
    | (clear tok9; go_at_call 20; refine (HRc.out _ _ _ _ _ _ hj8).mono ?_; rintro e w9 ⟨g9, us9, rfl, ho9, hr9, hi9, hb9⟩; have hM9 := copy_mat ho9 hr9; have tok10 : Hid (w = w) := rfl)
    | (clear tok10; go_at_call 27; refine (HSm.out _ _ _ _ _ _ _ (hM9.keep (lit_bw w9 _ _ _)) (lit_two w9 _ _)).mono ?_; rintro e w10 ⟨rfl, hb10⟩))
  go_ret
  exact ⟨rfl, (((hbw4.trans hb5).trans hb7).trans (hb8.trans hb9)).trans ((lit_bw w9 _ _ _).trans hb10)⟩
end Go.Proofs.Ytppknadflmjefaa

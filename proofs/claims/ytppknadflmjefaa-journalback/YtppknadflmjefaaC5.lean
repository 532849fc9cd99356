/- Layer 14: New, readsAs. -/
import Derived.Test.YtppknadflmjefaaC4
namespace Go.Proofs.Ytppknadflmjefaa
open Go.RowKit Go.Deep Go.Maps
set_option linter.unusedVariables false
set_option linter.unusedSimpArgs false

theorem heap3_new (w : World) (A B C : Obj) : (((w.alloc A).alloc B).alloc C).heap[w.heap.size + 1 + 1]? = some C := by
  have := (Go.MapKept.heap_alloc ((w.alloc A).alloc B) C).1
  rwa [size_alloc, size_alloc] at this
theorem heap3_old (w : World) (A B C : Obj) : (((w.alloc A).alloc B).alloc C).heap[w.heap.size]? = some A := by
  have h1 := (Go.MapKept.heap_alloc w A).1
  have b1 : Bw (w.alloc A) ((w.alloc A).alloc B) := Below.alloc (Bw.refl _) (Nat.le_refl _) _
  have b2 : Bw ((w.alloc A).alloc B) (((w.alloc A).alloc B).alloc C) := Below.alloc (Bw.refl _) (Nat.le_refl _) _
  exact ((b1.trans b2).block _ (by rw [size_alloc]; omega)).trans h1
theorem bw_bx {a b c : World} {g : Nat} (h : Bw a b) (k : Bx (· = g) b c) (hg : a.heap.size ≤ g) : Bw a c := Below.trans h (k.below h.size (fun x e => by omega))
set_option maxRecDepth 100000 in
theorem readsas_any {w : World} {g lb gm : Nat} {S : Dsk} (h : DiskAt w g lb gm S) {s : Nat} (hs : s < S.n) :
    Calls Try.prog 42 #[.pointer (some ⟨g, 0, none⟩), .int .i64 (s : Int)] w fun e w' => e = .returned (.agg (secV S.read s)) ∧ Bw w w' := by
  have hn := h.ok.n1
  have k0 : (0 : Int) ≤ (s : Int) := Int.natCast_nonneg _
  have k1 : (s : Int) < (S.n : Int) := by omega
  have H0 : Hid (∀ W, Bw w W → W.cell? ⟨g, 0, none⟩ = some (.slice (some ⟨lb, 0, none⟩) S.n S.n)) := fun W b => (h.keep b).c0
  have H1 : Hid (∀ W, Bw w W → W.cell? ⟨g, 1, none⟩ = some (.map (some gm))) := fun W b => (h.keep b).c1
  have HL : Hid (∀ W, Bw w W → (Instr.lookup 61 (.map (some gm)) (.int .i64 (s : Int)) true).run Try.prog W = .ok (.tuple #[.agg (secV (if S.is s then S.wait else fun _ => 0) s), .bool (S.is s)]) W) := fun W b => (h.keep b).map.look_ok h.ok.wb hn hs
  have HR : Hid (∀ W, Bw w W → BlkT W lb 77 (64 * S.n) S.last) := fun W b => (h.keep b).rows
  have tok1 : Hid (g = g) := rfl
  cases hi : S.is s
  · have hrd := read_no hi
    rw [hi, if_neg (by decide)] at HL
    rw [hrd]
    clear hrd h
    go_enter Try.func42, Try.ntmps42
    go_wp2_with (first
      | (clear tok1; refine wpList_allocS (by rfl) (by rfl) ?_; intro W1 q1 hq1 hb1 hs1; have d1 := H1.out W1 hb1; have l1 := HL.out W1 hb1; have tok2 : Hid (g = g) := rfl)
      | (clear tok2; refine wpList_allocS (by rfl) (by rfl) ?_; intro W2 q2 hq2 hb2 hs2; have hb2' := hb1.trans hb2; have hs12 := hs1.keep hb2; have hne := Nat.ne_of_lt (Nat.lt_of_lt_of_le hs1.lt hq2); have tok3 : Hid (g = g) := rfl)
      | (clear tok3; refine wpList_storeS (by rfl) _ _ (by rfl) q2 (fun _ => 0) (fun _ => 0) s 0 (by rfl) (by rfl) hs2 ?_; intro W3 hb3 hs3; have hb3' := bw_bx hb2' hb3 (Nat.le_trans hb1.size hq2); have hs13 := hs12.keepx hb3 hne; have d3 := H0.out W3 hb3'; have tok5 : Hid (g = g) := rfl)
      | (clear tok5; refine wpList_loadS (by rfl) _ (by rfl) lb _ S.n s S.last (by rfl) (HR.out W3 hb3') hs ?_; have tok6 : Hid (g = g) := rfl)
      | (clear tok6; refine wpList_storeS (by rfl) _ _ (by rfl) q1 S.last (fun _ => 0) s 0 (by rfl) (by rfl) hs13 ?_; intro W4 hb4 hs4; have hb4' := bw_bx hb3' hb4 hq1)
      | go_in)
    refine bodyPost_ret (results_cell_row rfl _ W4 q1 _ (secV S.last s) _ _ (by rfl) hs4 Try.underlying77 rfl (sizeS _ _)) rfl ?_
    exact ⟨rfl, hb4'⟩
  · have hrd := read_yes hi
    rw [hi, if_pos rfl] at HL
    rw [hrd]
    clear hrd h
    go_enter Try.func42, Try.ntmps42
    go_wp2_with (first
      | (clear tok1; refine wpList_allocS (by rfl) (by rfl) ?_; intro W1 q1 hq1 hb1 hs1; have d1 := H1.out W1 hb1; have l1 := HL.out W1 hb1; have tok2 : Hid (g = g) := rfl)
      | (clear tok2; refine wpList_allocS (by rfl) (by rfl) ?_; intro W2 q2 hq2 hb2 hs2; have hb2' := hb1.trans hb2; have hs12 := hs1.keep hb2; have hne := Nat.ne_of_lt (Nat.lt_of_lt_of_le hs1.lt hq2); have tok3 : Hid (g = g) := rfl)
      | (clear tok3; refine wpList_storeS (by rfl) _ _ (by rfl) q2 S.wait (fun _ => 0) s 0 (by rfl) (by rfl) hs2 ?_; intro W3 hb3 hs3; have hb3' := bw_bx hb2' hb3 (Nat.le_trans hb1.size hq2); have hs13 := hs12.keepx hb3 hne; have tok5 : Hid (g = g) := rfl)
      | (clear tok5; refine wpList_loadB (by rfl) _ (by rfl) q2 s S.wait (by rfl) hs3 ?_; have tok6 : Hid (g = g) := rfl)
      | (clear tok6; refine wpList_storeS (by rfl) _ _ (by rfl) q1 S.wait (fun _ => 0) s 0 (by rfl) (by rfl) hs13 ?_; intro W4 hb4 hs4; have hb4' := bw_bx hb3' hb4 hq1)
      | go_in)
    refine bodyPost_ret (results_cell_row rfl _ W4 q1 _ (secV S.wait s) _ _ (by rfl) hs4 Try.underlying77 rfl (sizeS _ _)) rfl ?_
    exact ⟨rfl, hb4'⟩
/-- the sectors of a new disk -/
theorem made_secs (n : Nat) (h : n ≤ 65536) : ∃ M : Array Value, M.size = 64 * n ∧ (∀ c, c < 64 * n → M[c]? = some (.int .u8 0)) ∧
    ∀ w, (Instr.makeSlice 60 (.int .i64 (n : Int)) (.int .i64 (n : Int))).run Try.prog w = .ok (.slice (some ⟨w.heap.size, 0, none⟩) n n) (w.alloc (.cells M 77)) := by
  obtain ⟨i0, hi0, hz0, hz1, hz2⟩ := info_parts infoS
  have hc : (Value.agg (secV (fun _ => 0) 0)).cells = secV (fun _ => 0) 0 := rfl
  refine ⟨madeCells (secV (fun _ => 0) 0) (n * 64), by simp [madeCells]; omega, fun c hcn => ?_, fun w => ?_⟩
  · have hlt : c < n * 64 := by omega
    have h1 := secV_at (fun _ => 0) 0 (c := c % 64) (by omega)
    unfold madeCells
    rw [secV_size]
    simp only [Array.getElem?_map, Array.getElem?_range, if_pos hlt, Option.map_some]
    rw [getElem!_def, h1]
  · have hr := run_make (P := Try.prog) w 60 77 i0 _ Try.underlying60 hi0 hz0 .i64 .i64 (n : Int) (n : Int) (by omega) (by omega) (by rw [hz2]; omega) (by omega)
    rw [hz1, hc, Int.toNat_natCast] at hr
    exact hr
/-- a new disk -/
def Dsk.new (n : Nat) : Dsk := ⟨n, fun _ => 0, fun _ => false, fun _ => 0, -1, false⟩
set_option maxRecDepth 100000 in
theorem new_ok (n : Nat) (h0 : 1 ≤ n) (h1 : n ≤ 65536) (w : World) :
    Calls Try.prog 10 #[.int .i64 (n : Int)] w fun e w' => ∃ g lb gm, e = .returned (.tuple #[.pointer (some ⟨g, 0, none⟩), .int .i64 0]) ∧ DiskAt w' g lb gm (Dsk.new n) ∧ (∀ b, dIn g lb gm b → w.heap.size ≤ b) ∧ Bw w w' := by
  obtain ⟨M, hM, hM0, hmk⟩ := made_secs n h1
  have HM : Hid (∀ c, c < 64 * n → M[c]? = some (.int .u8 0)) := hM0
  clear hM0
  have hmm : ∀ u : World, (Instr.makeMap 61 none).run Try.prog u = .ok (.map (some u.heap.size)) (u.alloc (.map #[] 0)) := fun u => rfl
  go_enter Try.func10, Try.ntmps10
  go_wp2
  go_ret2
  refine ⟨_, w.heap.size, w.heap.size + 1, rfl, ⟨heap3_new _ _ _ _, ⟨M, heap3_old _ _ _ _, hM, HM.out⟩, ?_, ?_⟩, ?_, ?_⟩
  · have hm := map_new14 (w.alloc (.cells M 77)) n (fun _ => 0)
    rw [size_alloc] at hm
    refine hm.keep ?_
    exact Below.alloc (Bw.refl _) (Nat.le_refl _) _
  · exact ⟨h0, h1, fun _ => ⟨Int.le_refl 0, show (0 : Int) < 256 by decide⟩, fun _ => ⟨Int.le_refl 0, show (0 : Int) < 256 by decide⟩, show (-1 : Int) ≤ -1 by decide, show (-1 : Int) < 9223372036854775808 by decide⟩
  · intro b hb
    rcases hb with rfl | rfl | rfl <;> omega
  · exact Below.alloc (Below.alloc (Below.alloc (Bw.refl _) (Nat.le_refl _) _) (by rw [size_alloc]; omega) _) (by rw [size_alloc, size_alloc]; omega) _
theorem new_no (x : Int) (hx : ¬ (1 ≤ x ∧ x ≤ 65536)) (b0 : -9223372036854775808 ≤ x) (b1 : x < 9223372036854775808) (w : World) :
    Calls Try.prog 10 #[.int .i64 x] w fun e w' => e = .returned (.tuple #[.pointer none, .int .i64 (if x < 1 then 1 else 2)]) ∧ w' = w := by
  by_cases h1 : x < 1
  · rw [if_pos h1]
    clear hx
    go_enter Try.func10, Try.ntmps10
    go_wp2
    go_ret2
    exact ⟨rfl, rfl⟩
  · rw [if_neg h1]
    have h2 : 65536 < x := by omega
    clear hx
    go_enter Try.func10, Try.ntmps10
    go_wp2
    go_ret2
    exact ⟨rfl, rfl⟩
end Go.Proofs.Ytppknadflmjefaa

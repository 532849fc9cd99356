/- The document's own Seal, with what room its row has; whole structs' loads behind a guard. -/
import Derived.Test.YtcnafcoifhdigaaGD
import Derived.Test.YtcnafcoifhdigaaFk
namespace Go.Proofs.Ytcnafcoifhdigaa
open Go.RowKit Go.Deep
set_option linter.unusedVariables false
set_option linter.unusedSimpArgs false

theorem rseal_cap (A : Option Addr) (L ca : Nat) (f : Nat → Int) (hL : L ≤ 140737488350000) (w : World) (hrow : RowAt w A L f) (hnil : A = none → ca = 0) :
    Calls Try.prog 11 #[.slice A L ca] w fun e w' => ∃ g cap', e = .returned (.slice (some ⟨g, 0, none⟩) (L + 4) cap') ∧ RowAt w' (some ⟨g, 0, none⟩) (L + 4) (sealF f L) ∧ L + 4 ≤ cap' ∧ Bw w w' := by
  obtain ⟨i0, hi0, hz0, hz1, hz2⟩ := info_parts info_u8
  have hmx : 0 + L ≤ maxLen := by unfold maxLen; omega
  have hmx2 : L + 4 ≤ maxLen := by unfold maxLen; omega
  go_enter Try.func11, Try.ntmps11
  go_wp2_with (first
    | (go_at_call 19; refine (rsum_any A L ca f (by omega) _ hrow).mono ?_; rintro e w1 ⟨rfl, hw1⟩; obtain ⟨S, hS⟩ : ∃ S, Hid (S = Crc.more 0 (nb f) L) := ⟨_, rfl⟩; rw [← hS.out]; have hS1 : S < 4294967296 := by rw [hS.out]; exact Crc.more_lt (by decide) (nb_lt hrow.2) L)
    | (at_builtin; refine wpList_append_rowat _ (by rfl) (.tmp 7) (.tmp 8) _ (by rfl) w1.heap.size 5 i0 _ 1 Try.underlying24 hi0 hz0 hz1 hz2 rfl _ _ _ (by rfl) (own_empty w1 w1.heap.size _ (Nat.le_refl _)) A L ca f (by rfl) ((hrow.keep hw1).keep ((Below.refl _ _).alloc (Nat.le_refl _) _)) hnil hmx (by omega) (by simp) ?_; intro v2 w2 hown2 hgrow2; simp only [Nat.zero_add, List.nil_append] at hown2; have bw2 := bw_fresh hgrow2; have sz2 := bw2.size)
    | (at_builtin; refine wpList_append_lies _ (by rfl) (.tmp 10) (.tmp 22) _ (by rfl) w1.heap.size 5 i0 _ 1 1 Try.underlying24 hi0 hz0 hz1 hz2 rfl (by omega) _ _ _ (by rfl) (hown2.alloc _) ⟨w2.heap.size, 0, none⟩ 4 4 [_, _, _, _] (by rfl) (by rfl) (World.news_of_block (cs := #[_, _, _, _]) (t := 5) (fr := (0, 0)) (heap_alloc_new w2 _)) (by simp [Value.oneCell']) (by omega) hmx2 (by omega) (by simp; omega) (w2.heap.size + 1) (by simp) ?_; intro g3 c3 w3 hown3 hgrow3 hat3 hlt3))
  rw [news4 f L S hS.out hS1] at hown3
  obtain ⟨g4, c4, e4, h4, h5, h6, h7⟩ := Own.of hown3 (by omega)
  go_ret
  refine ⟨_, _, rfl, ?_, ?_, ?_⟩
  · cases e4
    exact h7.row (sealF_bd hrow.2 L)
  · cases e4; exact h5
  · exact hw1.trans (bw_grow hgrow3 (Below.alloc bw2 sz2 _) (by rw [size_alloc]; omega) (hown2.alloc _))

/-- a whole row's load behind a guard that holds -/
theorem wpList_load_row_g {P : Program} {ops : Array Oper} {rest : List Oper} {o : Oper} {a : Act} {w : World} {Q : Exit → Act → World → Prop} (hgd : Region.wanted o (yielded ops a.tmps) = true) (ty : TypeId) (x : Operand) (ho : o.op = .load ty x)
    (g : Nat) (hx : a.eval x = .pointer (some ⟨g, 0, none⟩)) (t : TypeId) (cs : Array Value) (fr : Nat × Nat) (d : TypeDesc) (hg : w.heap[g]? = some (.cells cs t fr))
    (hu : P.underlying ty = some d) (hd : (match d with | .struct _ | .array _ _ => true | _ => false) = true) (hi : (P.info? ty).map (·.size) = some cs.size)
    (h : wpList P ops Q rest (a.put o.dst (.agg cs)) w) : wpList P ops Q (o :: rest) a w :=
  wpList_step fun _ hK => by rw [if_pos hgd]; exact wp_load_row ty x ho g hx t cs fr d hg hu hd hi (hK _ _ h)
/-- a block is loaded, whether behind a guard that holds or not -/
theorem wpList_load_blk {ops : Array Oper} {rest : List Oper} {o : Oper} {a : Act} {w : World} {Q : Exit → Act → World → Prop} (hgd : Region.wanted o (yielded ops a.tmps) = true) (x : Operand) (ho : o.op = .load 26 x)
    (g : Nat) (hx : a.eval x = .pointer (some ⟨g, 0, none⟩)) {k s h : Int} {A : Option Addr} {n c : Nat} (hg : BlkAt w g k s h A n c)
    (hh : wpList Try.prog ops Q rest (a.put o.dst (.agg (blkCells k s h A n c))) w) : wpList Try.prog ops Q (o :: rest) a w :=
  wpList_load_row_g hgd 26 x ho g hx 26 _ (0, 0) _ hg Try.underlying26 rfl (blk_info _ _ _ _ _ _) hh
theorem BlkAt.keep {w w' : World} {g : Nat} {k s h : Int} {A : Option Addr} {n c : Nat} (hb : BlkAt w g k s h A n c) (b : Bw w w') : BlkAt w' g k s h A n c := (b.block _ (Array.getElem?_eq_some_iff.1 hb).1).trans hb
theorem BlkAt.cells {w : World} {g : Nat} {k s h : Int} {A : Option Addr} {n c : Nat} (hb : BlkAt w g k s h A n c) : w.cell? ⟨g, 0, none⟩ = some (.int .u64 k) ∧ w.cell? ⟨g, 1, none⟩ = some (.int .u32 s) ∧ w.cell? ⟨g, 2, none⟩ = some (.int .u8 h) ∧ w.cell? ⟨g, 3, none⟩ = some (.slice A n c) :=
  ⟨cell_of_row w g 0 _ _ _ hb, cell_of_row w g 1 _ _ _ hb, cell_of_row w g 2 _ _ _ hb, cell_of_row w g 3 _ _ _ hb⟩
theorem blk_new (w : World) (k s h : Int) (A : Option Addr) (n c : Nat) : BlkAt (w.alloc (.cells (blkCells k s h A n c) 26)) w.heap.size k s h A n c := heap_alloc_new _ _
theorem str_congr6 {f g : Nat → Int} {n : Nat} (h : ∀ i, i < n → f i = g i) : str f n = str g n := by
  unfold str
  rw [List.map_congr_left (fun i hi => h i (List.mem_range.1 hi))]
/-- the document's own Same, of blocks whose cells are written out -/
theorem same_at (k s h k' s' h' : Nat) (A A' : Option Addr) (n n' c c' : Nat) (d d' : Nat → Int) (w : World) (hr : RowAt w A n d) (hr' : RowAt w A' n' d') :
    Calls Try.prog 15 #[.agg (blkCells (k : Int) (s : Int) (h : Int) A n c), .agg #[.int .u64 (k' : Int), .int .u32 (s' : Int), .int .u8 (h' : Int), .slice A' n' c']] w fun e w' => Tells e (SameB k s h k' s' h' n n' d d') ∧ Bw w w' :=
  same_any k s h k' s' h' A A' n n' c c' d d' w hr hr'
end Go.Proofs.Ytcnafcoifhdigaa

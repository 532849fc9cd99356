/- The program's own told, as landed at e169a841 (written by mktold10.py). -/
import Derived.Test.YtkoacehgfmflmabJ5
import Derived.Test.YtkoacehgfmflmabJ4
namespace Go.Proofs.Ytkoacehgfmflmab
open Go.RowKit Go.Deep
set_option linter.unusedVariables false
set_option linter.unusedSimpArgs false

theorem step_store_row {P : Program} {w : World} {ops : Array Oper} {o : Oper} {a : Act} {K : Act → World → Prop} {Q : Exit → Act → World → Prop} {E : Prop} (hgd : o.guard = none) (ty : TypeId) (x y : Operand) (ho : o.op = .store ty x y)
    (g : Nat) (cells : Array Value) (hx : a.eval x = .pointer (some ⟨g, 0, none⟩)) (hy : a.eval y = .agg cells)
    (t : TypeId) (old : Array Value) (hg : w.heap[g]? = some (.cells old t (0, 0))) (hi : (P.info? ty).map (·.size) = some cells.size)
    (hold : old.size = cells.size) (h1 : cells.all (·.oneCell') = true) (hh : K (a.put o.dst undef) (w.setRow g cells)) :
    if Region.wanted o (yielded ops a.tmps) = true then Oper.wp P o a w K Q else E := by
  have hw : Region.wanted o (yielded ops a.tmps) = true := by simp [Region.wanted, hgd]
  rw [if_pos hw]
  exact wp_store_row ty x y ho g cells hx hy t old hg hi hold h1 hh
theorem step_built10 {P : Program} {w : World} {ops : Array Oper} {o : Oper} {a : Act} {K : Act → World → Prop} {Q : Exit → Act → World → Prop} {E : Prop} (hgd : o.guard = none) (t : TypeId) (parts : Array (Nat × Operand)) (ho : o.op = .build t parts)
    (cells : Array Value) (hb : P.built t (parts.map fun (i, x) => (i, a.eval x)).toList = some cells) (hh : K (a.put o.dst (.agg cells)) w) :
    if Region.wanted o (yielded ops a.tmps) = true then Oper.wp P o a w K Q else E := by
  have hw : Region.wanted o (yielded ops a.tmps) = true := by simp [Region.wanted, hgd]
  rw [if_pos hw]
  exact wp_build t parts ho (by rw [hb]; rfl) (by rw [hb]; exact hh)
/-- what the fields of bytes seem to tell -/
structure Hd.Told (l : Hd.B) (h : Hd.Hdr) : Prop where
  name : h.name = Hd.first (l.take 100)
  pre : h.pre = Hd.first ((l.drop 345).take 155)
  link : h.link = Hd.first ((l.drop 157).take 100)
  typ : l[156]? = some h.typ
  mode : Hd.NumOf ((l.drop 100).take 8) h.mode
  size : Hd.NumOf ((l.drop 124).take 12) h.size
  time : Hd.NumOf ((l.drop 136).take 12) h.time
/-- told of a head's own bytes -/
theorem Hd.told_lay {l : Hd.B} {h k : Hd.Hdr} (t : Hd.Told l h) (g : Hd.Good k) (e : Hd.layB k = l) : h = k := by
  subst e
  have e1 : h.name = k.name := by rw [t.name, Hd.lay_name g, Hd.first_pad 100 g.nname]
  have e2 : h.pre = k.pre := by rw [t.pre, Hd.lay_pre g, Hd.first_pad 155 g.npre]
  have e3 : h.link = k.link := by rw [t.link, Hd.lay_link g, Hd.first_pad 100 g.nlink]
  have e4 : h.typ = k.typ := by have := t.typ; rw [Hd.lay_typ g] at this; exact (Option.some.inj this).symm
  have e5 : h.mode = k.mode := by
    have a := g.mode
    have := t.mode
    rw [Hd.lay_mode g] at this
    have := this k.mode.toNat (by rw [Hd.numB_len]; exact ⟨by omega, .inl (by show _ < 2097152; omega)⟩) (by rw [Hd.numB_len])
    omega
  have e6 : h.size = k.size := by
    have a := g.size
    have := t.size
    rw [Hd.lay_size g] at this
    have := this k.size.toNat (by rw [Hd.numB_len]; exact ⟨by omega, .inl (by show _ < 8589934592; omega)⟩) (by rw [Hd.numB_len])
    omega
  have e7 : h.time = k.time := by
    have a := g.time
    have := t.time
    rw [Hd.lay_time g] at this
    have := this k.time.toNat (by rw [Hd.numB_len]; exact ⟨by omega, .inr (by show _ < 309485009821345068724781056; omega)⟩) (by rw [Hd.numB_len])
    omega
  cases h; cases k
  simp only at e1 e2 e3 e4 e5 e6 e7
  subst e1 e2 e3 e4 e5 e6 e7
  rfl
def Hd.none7 : Array Value := #[.string ⟨#[]⟩, .string ⟨#[]⟩, .int .i64 0, .int .i64 0, .int .i64 0, .int .u8 0, .string ⟨#[]⟩]
theorem zero_head (w : World) : (zeroValue 23).run Try.prog w = .ok (.agg Hd.none7) w := by kernel_rfl
theorem Hd.hv_none : Hd.hv Hd.none = Hd.none7 := rfl
theorem info_head (h : Hd.Hdr) : (Try.prog.info? 23).map (·.size) = some (Hd.hv h).size := by unfold Hd.hv; kernel_rfl
theorem Hd.hv_size (h k : Hd.Hdr) : (Hd.hv h).size = (Hd.hv k).size := rfl
theorem Hd.hv_one (h : Hd.Hdr) : (Hd.hv h).all (·.oneCell') = true := by simp [Hd.hv, Value.oneCell']
set_option maxRecDepth 100000 in
set_option maxHeartbeats 8000000 in
theorem htold_any (l : Hd.B) (hl : l.length = 512) (w : World) : Calls Try.prog 18 #[.agg (Hd.arr l)] w fun e w' => (∃ h, e = .returned (.agg (Hd.hv h)) ∧ Hd.Told l h) ∧ Bw w w' := by
  have hz := zero_head
  obtain ⟨Z, hZ⟩ : ∃ Z, Hid (Z = Hd.none7) := ⟨_, rfl⟩
  rw [← hZ.out] at hz
  obtain ⟨W, hW⟩ : ∃ W, W = (w.alloc (.cells (Hd.arr l) 42)).alloc (.cells Z 23) := ⟨_, rfl⟩
  have hA0 : ArrAt W w.heap.size l := by rw [hW]; exact heap_alloc2_old _ _ _
  have hB0 : W.heap[w.heap.size + 1]? = some (.cells Z 23 (0, 0)) := by rw [hW]; exact heap_alloc2_new _ _ _
  have hbw : Bw w W := by rw [hW]; exact bw_alloc2 _ _ _
  obtain ⟨c, hc⟩ : ∃ c : UInt8, Hid (l[156]? = some c) := ⟨l[156], by show _ = _; exact List.getElem?_eq_getElem (by omega)⟩
  have hc0 : W.cell? ⟨w.heap.size, 156, none⟩ = some (.int .u8 ((c.toNat : Nat) : Int)) := by rw [(hA0.cell (c := 156) (by omega)).1, Hd.rowF_at hc.out]
  have hl' : Hid (l.length = 512) := hl
  have HA : Hid (∀ V, Bw W V → ∀ o n, o + n ≤ 512 → RowAt V (some ⟨w.heap.size, o, none⟩) n (Hd.rowF ((l.drop o).take n)) ∧ ((l.drop o).take n).length = n) := fun V h o n hn => ⟨(hA0.keep h).row o n (by rw [hl'.out]; exact hn), by rw [List.length_take, List.length_drop, hl'.out]; omega⟩
  have HS : Hid (∀ V, Bw W V → V.cell? ⟨w.heap.size, 156, none⟩ = some (.int .u8 ((c.toNat : Nat) : Int))) := fun V h => (h.cell (p := ⟨w.heap.size, 156, none⟩) (block_lt_of_cell hc0)).trans hc0
  go_enter Try.func18, Try.ntmps18
  go_wp2
  rw [← hW]
  clear hW hz hc0 hA0 hl
  have hdr : Bw W W.drew := (Below.refl _ _).drew
  refine wp_region_held_drew (S := fun w' => w'.cell? ⟨w.heap.size, 156, none⟩ = some (.int .u8 ((c.toNat : Nat) : Int))) (by kernel_rfl) (HS.out _ hdr) (fun hHeld => ?_)
  refine wpAnyH_take (i := 0) (v := ?_) rfl (by kernel_rfl) (by kernel_rfl) (by kernel_rfl) (fun _ _ _ h => h) (Or.inl ⟨by rfl, ?_⟩) (by assumption) ?_
  rotate_left
  · intro w hSw; (try dsimp only at hSw); go_simp; all_goals (with_reducible rfl)
  try simp only [Act.put, List.setIfInBounds_toArray, List.set_cons_zero, List.set_cons_succ, List.getElem_toArray, List.getElem_cons_succ, List.getElem_cons_zero]
  refine wpAnyH_take (i := 2) (v := ?_) rfl (by kernel_rfl) (by kernel_rfl) (by kernel_rfl) (fun _ _ _ h => h) (Or.inl ⟨by rfl, ?_⟩) (by assumption) ?_
  rotate_left
  · intro w hSw; (try dsimp only at hSw); go_simp; all_goals (with_reducible rfl)
  try simp only [Act.put, List.setIfInBounds_toArray, List.set_cons_zero, List.set_cons_succ, List.getElem_toArray, List.getElem_cons_succ, List.getElem_cons_zero]
  refine wpAnyH_take (i := 4) (v := ?_) rfl (by kernel_rfl) (by kernel_rfl) (by kernel_rfl) (fun _ _ _ h => h) (Or.inl ⟨by rfl, ?_⟩) (by assumption) ?_
  rotate_left
  · intro w hSw; (try dsimp only at hSw); go_simp; all_goals (with_reducible rfl)
  try simp only [Act.put, List.setIfInBounds_toArray, List.set_cons_zero, List.set_cons_succ, List.getElem_toArray, List.getElem_cons_succ, List.getElem_cons_zero]
  refine wpAnyH_take (i := 6) (v := ?_) rfl (by kernel_rfl) (by kernel_rfl) (by kernel_rfl) (fun _ _ _ h => h) (Or.inl ⟨by rfl, ?_⟩) (by assumption) ?_
  rotate_left
  · intro w hSw; (try dsimp only at hSw); go_simp; all_goals (with_reducible rfl)
  try simp only [Act.put, List.setIfInBounds_toArray, List.set_cons_zero, List.set_cons_succ, List.getElem_toArray, List.getElem_cons_succ, List.getElem_cons_zero]
  refine wpAnyH_take (i := 8) (v := ?_) rfl (by kernel_rfl) (by kernel_rfl) (by kernel_rfl) (fun _ _ _ h => h) (Or.inl ⟨by rfl, ?_⟩) (by assumption) ?_
  rotate_left
  · intro w hSw; (try dsimp only at hSw); go_simp; all_goals (with_reducible rfl)
  try simp only [Act.put, List.setIfInBounds_toArray, List.set_cons_zero, List.set_cons_succ, List.getElem_toArray, List.getElem_cons_succ, List.getElem_cons_zero]
  refine wpAnyH_take (i := 10) (v := ?_) rfl (by kernel_rfl) (by kernel_rfl) (by kernel_rfl) (fun _ _ _ h => h) (Or.inl ⟨by rfl, ?_⟩) (by assumption) ?_
  rotate_left
  · intro w hSw; (try dsimp only at hSw); go_simp; all_goals (with_reducible rfl)
  try simp only [Act.put, List.setIfInBounds_toArray, List.set_cons_zero, List.set_cons_succ, List.getElem_toArray, List.getElem_cons_succ, List.getElem_cons_zero]
  refine wpAnyH_take (i := 11) (v := ?_) rfl (by kernel_rfl) (by kernel_rfl) (by kernel_rfl) (fun _ _ _ h => h) (Or.inl ⟨by rfl, ?_⟩) (by assumption) ?_
  rotate_left
  · intro w hSw; (try dsimp only at hSw); go_simp; all_goals (with_reducible rfl)
  try simp only [Act.put, List.setIfInBounds_toArray, List.set_cons_zero, List.set_cons_succ, List.getElem_toArray, List.getElem_cons_succ, List.getElem_cons_zero]
  refine wpAnyH_take (i := 12) (v := ?_) rfl (by kernel_rfl) (by kernel_rfl) (by kernel_rfl) (fun _ _ _ h => h) (Or.inl ⟨by rfl, ?_⟩) (by assumption) ?_
  rotate_left
  · intro w hSw; (try dsimp only at hSw); go_simp; all_goals (with_reducible rfl)
  try simp only [Act.put, List.setIfInBounds_toArray, List.set_cons_zero, List.set_cons_succ, List.getElem_toArray, List.getElem_cons_succ, List.getElem_cons_zero]
  refine wpAnyH_ready (rs := [1]) (by kernel_rfl) (by simp) ?_
  refine AllReadyH.cons rfl (fun K hK => ?_) AllReadyH.nil
  go_simp
  refine (htext_any w.heap.size 0 100 _ ((l.drop 0).take 100) (HA.out _ hdr 0 100 (by omega)).2 (by omega) (by omega) _ (HA.out _ hdr 0 100 (by omega)).1).mono ?_
  rintro e w1 ⟨rfl, hw1⟩
  have b1 := hdr.trans hw1
  refine hK.out _ _ (HS.out _ b1) (fun hHeld => ?_)
  clear hK K
  try simp only [Act.put, List.setIfInBounds_toArray, List.set_cons_zero, List.set_cons_succ, List.getElem_toArray, List.getElem_cons_succ, List.getElem_cons_zero]
  refine wpAnyH_ready (rs := [3]) (by kernel_rfl) (by simp) ?_
  refine AllReadyH.cons rfl (fun K hK => ?_) AllReadyH.nil
  go_simp
  refine (htext_any w.heap.size 345 155 _ ((l.drop 345).take 155) (HA.out _ b1 345 155 (by omega)).2 (by omega) (by omega) _ (HA.out _ b1 345 155 (by omega)).1).mono ?_
  rintro e w2 ⟨rfl, hw2⟩
  have b2 := b1.trans hw2
  refine hK.out _ _ (HS.out _ b2) (fun hHeld => ?_)
  clear hK K
  try simp only [Act.put, List.setIfInBounds_toArray, List.set_cons_zero, List.set_cons_succ, List.getElem_toArray, List.getElem_cons_succ, List.getElem_cons_zero]
  refine wpAnyH_ready (rs := [5]) (by kernel_rfl) (by simp) ?_
  refine AllReadyH.cons rfl (fun K hK => ?_) AllReadyH.nil
  go_simp
  refine (hnumber_any _ 8 _ ((l.drop 100).take 8) (HA.out _ b2 100 8 (by omega)).2 (by omega) (by omega) (by omega) _ (HA.out _ b2 100 8 (by omega)).1).mono ?_
  rintro e w3 ⟨⟨z3, rfl, hz3⟩, hw3⟩
  have b3 := b2.trans hw3
  refine hK.out _ _ (HS.out _ b3) (fun hHeld => ?_)
  clear hK K
  try simp only [Act.put, List.setIfInBounds_toArray, List.set_cons_zero, List.set_cons_succ, List.getElem_toArray, List.getElem_cons_succ, List.getElem_cons_zero]
  refine wpAnyH_ready (rs := [7]) (by kernel_rfl) (by simp) ?_
  refine AllReadyH.cons rfl (fun K hK => ?_) AllReadyH.nil
  go_simp
  refine (hnumber_any _ 12 _ ((l.drop 124).take 12) (HA.out _ b3 124 12 (by omega)).2 (by omega) (by omega) (by omega) _ (HA.out _ b3 124 12 (by omega)).1).mono ?_
  rintro e w4 ⟨⟨z4, rfl, hz4⟩, hw4⟩
  have b4 := b3.trans hw4
  refine hK.out _ _ (HS.out _ b4) (fun hHeld => ?_)
  clear hK K
  try simp only [Act.put, List.setIfInBounds_toArray, List.set_cons_zero, List.set_cons_succ, List.getElem_toArray, List.getElem_cons_succ, List.getElem_cons_zero]
  refine wpAnyH_ready (rs := [9]) (by kernel_rfl) (by simp) ?_
  refine AllReadyH.cons rfl (fun K hK => ?_) AllReadyH.nil
  go_simp
  refine (hnumber_any _ 12 _ ((l.drop 136).take 12) (HA.out _ b4 136 12 (by omega)).2 (by omega) (by omega) (by omega) _ (HA.out _ b4 136 12 (by omega)).1).mono ?_
  rintro e w5 ⟨⟨z5, rfl, hz5⟩, hw5⟩
  have b5 := b4.trans hw5
  refine hK.out _ _ (HS.out _ b5) (fun hHeld => ?_)
  clear hK K
  try simp only [Act.put, List.setIfInBounds_toArray, List.set_cons_zero, List.set_cons_succ, List.getElem_toArray, List.getElem_cons_succ, List.getElem_cons_zero]
  refine wpAnyH_ready (rs := [13]) (by kernel_rfl) (by simp) ?_
  refine AllReadyH.cons rfl (fun K hK => ?_) AllReadyH.nil
  go_simp
  refine (htext_any w.heap.size 157 100 _ ((l.drop 157).take 100) (HA.out _ b5 157 100 (by omega)).2 (by omega) (by omega) _ (HA.out _ b5 157 100 (by omega)).1).mono ?_
  rintro e w6 ⟨rfl, hw6⟩
  have b6 := b5.trans hw6
  refine hK.out _ _ (HS.out _ b6) (fun hHeld => ?_)
  clear hK K
  try simp only [Act.put, List.setIfInBounds_toArray, List.set_cons_zero, List.set_cons_succ, List.getElem_toArray, List.getElem_cons_succ, List.getElem_cons_zero]
  have hB6 : w6.heap[w.heap.size + 1]? = some (.cells Z 23 (0, 0)) := (b6.block _ (Array.getElem?_eq_some_iff.1 hB0).1).trans hB0
  obtain ⟨h, hh, hT⟩ : ∃ h : Hd.Hdr, Hid (Hd.hv h = #[.string (Hd.S (Hd.first ((l.drop 0).take 100))), .string (Hd.S (Hd.first ((l.drop 345).take 155))), .int .i64 z3, .int .i64 z4, .int .i64 z5, .int .u8 ((c.toNat : Nat) : Int), .string (Hd.S (Hd.first ((l.drop 157).take 100)))]) ∧ Hid (Hd.Told l h) :=
    ⟨⟨Hd.first ((l.drop 0).take 100), z3, z4, z5, c, Hd.first ((l.drop 157).take 100), Hd.first ((l.drop 345).take 155)⟩, rfl, ⟨by rw [List.drop_zero], rfl, rfl, hc.out, hz3, hz4, hz5⟩⟩
  refine wpAnyH_ready (rs := [14]) (by kernel_rfl) (by simp) ?_
  refine AllReadyH.cons rfl (fun K hK => ?_) AllReadyH.nil
  refine step_built10 (by rfl) 23 _ (by rfl) (Hd.hv h) (by rw [hh.out]; kernel_rfl) ?_
  refine hK.out _ _ (HS.out _ b6) (fun hHeld => ?_)
  clear hK K
  try simp only [Act.put, List.setIfInBounds_toArray, List.set_cons_zero, List.set_cons_succ, List.getElem_toArray, List.getElem_cons_succ, List.getElem_cons_zero]
  refine wpAnyH_ready (rs := [15]) (by kernel_rfl) (by simp) ?_
  refine AllReadyH.cons rfl (fun K hK => ?_) AllReadyH.nil
  refine step_store_row (by rfl) 23 _ _ (by rfl) (w.heap.size + 1) (Hd.hv h) (by rfl) (by rfl) 23 Z hB6 (info_head h) (by rw [hZ.out]; rfl) (Hd.hv_one h) ?_
  refine hK.out _ _ ((World.cell?_of_block (setRow_other _ (w.heap.size + 1) w.heap.size _ (by omega))).trans (HS.out _ b6)) (fun hHeld => ?_)
  clear hK K
  try simp only [Act.put, List.setIfInBounds_toArray, List.set_cons_zero, List.set_cons_succ, List.getElem_toArray, List.getElem_cons_succ, List.getElem_cons_zero]
  refine wpAnyH_done (by kernel_rfl) ?_ _
  go_wp2
  exact bodyPost_ret (results_cell_row Try.results18 _ _ (w.heap.size + 1) 23 (Hd.hv h) (0, 0) _ rfl (setRow_heap _ (w.heap.size + 1) _ _ _ _ hB6) Try.underlying23 rfl (info_head h)) rfl ⟨⟨h, rfl, hT.out⟩, bw_of_bx (hbw.trans b6) (bx_set _ (w.heap.size + 1) _ rfl) (fun k e => by omega)⟩
end Go.Proofs.Ytkoacehgfmflmab

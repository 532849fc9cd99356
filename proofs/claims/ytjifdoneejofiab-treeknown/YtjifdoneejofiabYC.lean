/- The program's own With, of layer 11, as landed at 97b3c5cd. -/
import Derived.Test.YtjifdoneejofiabYB
namespace Go.Proofs.Ytjifdoneejofiab
open Go.RowKit Go.Deep
set_option linter.unusedVariables false
set_option linter.unusedSimpArgs false

theorem two_built (w : World) (y : Tr.Iv) (S1 S2 S3 : Value) : Bw w ((w.alloc (.cells y.arr 26)).alloc (.cells #[S1, S2, S3] 22)).drew ∧ ((w.alloc (.cells y.arr 26)).alloc (.cells #[S1, S2, S3] 22)).drew.cell? ⟨w.heap.size + 1, 0, none⟩ = some S1 ∧ ((w.alloc (.cells y.arr 26)).alloc (.cells #[S1, S2, S3] 22)).drew.cell? ⟨w.heap.size + 1, 1, none⟩ = some S2 ∧ ((w.alloc (.cells y.arr 26)).alloc (.cells #[S1, S2, S3] 22)).drew.cell? ⟨w.heap.size + 1, 2, none⟩ = some S3 ∧ BoxAt ((w.alloc (.cells y.arr 26)).alloc (.cells #[S1, S2, S3] 22)).drew w.heap.size y := by
  have hs : (w.alloc (.cells y.arr 26)).heap.size = w.heap.size + 1 := by simp
  have hn := heap_alloc_new (w.alloc (.cells y.arr 26)) (.cells #[S1, S2, S3] 22)
  rw [hs] at hn
  refine ⟨Below.drew (bw_alloc11 (bw_alloc11 (Bw.refl _) _) _), keep_cell11 (cell_of_row _ _ 0 _ _ _ hn) (Below.drew (Bw.refl _)), keep_cell11 (cell_of_row _ _ 1 _ _ _ hn) (Below.drew (Bw.refl _)), keep_cell11 (cell_of_row _ _ 2 _ _ _ hn) (Below.drew (Bw.refl _)), (BoxAt.new _ _).keep (Below.drew (bw_alloc11 (Bw.refl _) _))⟩


namespace Tr
theorem tw_len {α : Type} (P : α → Bool) : ∀ (t : List α) (c : Nat), c ≤ t.length → (∀ (j : Nat) (x : α), j < c → t[j]? = some x → P x = true) → (∀ x, t[c]? = some x → P x = false) → (t.takeWhile P).length = c
  | [], c, h, _, _ => by simp at h; simp [h]
  | a :: t, 0, _, _, h2 => by
    have := h2 a rfl
    rw [List.takeWhile_cons, this]; rfl
  | a :: t, c + 1, h, h1, h2 => by
    rw [List.takeWhile_cons, h1 0 a (by omega) rfl]
    simp only [if_true, List.length_cons]
    rw [tw_len P t c (by simpa using h) (fun j x hj hx => h1 (j + 1) x (by omega) (by simpa using hx)) (fun x hx => h2 x (by simpa using hx))]
/-- how many stand ahead of a path -/
def cnt (t : List It) (p : B) : Nat := (t.takeWhile fun x => decide (Nm.cmp x.path p = -1)).length
def there (t : List It) (p : B) : Bool := match t[cnt t p]? with | some x => decide (x.path = p) | none => false
/-- a list with an item put in -/
def withL (t : List It) (x : It) : List It := t.take (cnt t x.path) ++ [x] ++ t.drop (cnt t x.path + (if there t x.path then 1 else 0))
theorem place_is {t : List It} {p : B} {c : Nat} {b : Bool} (h : Place t p c b) : cnt t p = c ∧ there t p = b := by
  have hc : cnt t p = c := tw_len _ t c h.le (fun j x hj hx => decide_eq_true (h.low j x hj hx)) (fun x hx => decide_eq_false (h.high c x (Nat.le_refl _) hx))
  refine ⟨hc, ?_⟩
  unfold there
  rw [hc]
  rcases hx : t[c]? with _ | x
  · show false = b
    cases b with
    | false => rfl
    | true => obtain ⟨y, hy, -⟩ := h.there.1 rfl; rw [hx] at hy; cases hy
  · show decide (x.path = p) = b
    cases b with
    | false =>
      rw [decide_eq_false_iff_not]
      intro e
      have := h.there.2 ⟨x, hx, e⟩
      cases this
    | true =>
      obtain ⟨y, hy, e⟩ := h.there.1 rfl
      rw [hx] at hy; obtain rfl := Option.some.inj hy
      exact decide_eq_true e
/-- what With answers -/
def withE (t : List It) (x : It) : Int := if (chkE t).2 ≠ 0 then (chkE t).2 else (chkE (withL t x)).2
end Tr
theorem step_build_it {ops : Array Oper} {o : Oper} {a : Act} {w : World} {K : Act → World → Prop} {Q : Exit → Act → World → Prop} {E : Prop} (hgd : o.guard = none) (x : Operand) (ho : o.op = .buildSlice 22 1 #[(0, x)])
    (y : Tr.Iv) (hx : a.eval x = .agg y.arr)
    (h : K (a.put o.dst (.slice (some ⟨w.heap.size, 0, none⟩) 1 1)) (w.alloc (.cells y.arr 26))) : if Region.wanted o (yielded ops a.tmps) = true then Oper.wp Try.prog o a w K Q else E := by
  have hw : Region.wanted o (yielded ops a.tmps) = true := by simp [Region.wanted, hgd]
  rw [if_pos hw]
  obtain ⟨i0, hi0, hz0, hz1, hz2⟩ := info_parts info_item
  refine wp_buildSlice 22 26 1 _ ho y.arr i0 _ Try.underlying22 hi0 hz0 (by rw [hz1]; omega) (by rw [hz1]; omega) ?_ h
  rw [hz1]
  simp only [Array.toList_map, List.map_cons, List.map_nil, hx]
  kernel_rfl
theorem info_its : (Try.prog.info? 22).map (fun i => (i.zero, i.size, i.bytes)) = some (some (.slice none 0 0), 1, 24) := by kernel_rfl
theorem step_build3 {ops : Array Oper} {o : Oper} {a : Act} {w : World} {K : Act → World → Prop} {Q : Exit → Act → World → Prop} {E : Prop} (hgd : o.guard = none) (p0 p1 p2 : Operand) (ho : o.op = .buildSlice 43 3 #[(0, p0), (1, p1), (2, p2)])
    (A0 A1 A2 : Option Addr) (n0 n1 n2 c0 c1 c2 : Nat) (h0 : a.eval p0 = .slice A0 n0 c0) (h1 : a.eval p1 = .slice A1 n1 c1) (h2 : a.eval p2 = .slice A2 n2 c2)
    (h : K (a.put o.dst (.slice (some ⟨w.heap.size, 0, none⟩) 3 3)) (w.alloc (.cells #[.slice A0 n0 c0, .slice A1 n1 c1, .slice A2 n2 c2] 22))) : if Region.wanted o (yielded ops a.tmps) = true then Oper.wp Try.prog o a w K Q else E := by
  have hw : Region.wanted o (yielded ops a.tmps) = true := by simp [Region.wanted, hgd]
  rw [if_pos hw]
  obtain ⟨i0, hi0, hz0, hz1, hz2⟩ := info_parts info_its
  refine wp_buildSlice 43 22 3 _ ho _ i0 _ Try.underlying43 hi0 hz0 (by rw [hz1]; omega) (by rw [hz1]; omega) ?_ h
  rw [hz1]
  simp only [Array.toList_map, List.map_cons, List.map_nil, h0, h1, h2]
  kernel_rfl
set_option maxRecDepth 100000 in
set_option maxHeartbeats 8000000 in
theorem twith_any (A : Option Addr) (cap : Nat) (L : List Tr.Iv) (y : Tr.Iv) (hn : L.length * 80 ≤ 140737488355328) (hcap : L.length ≤ cap) (hC : A = none → L.length = 0 ∧ cap = 0) (w : World) (ha : ItsAt w A L) (hy : BodyAt w y) :
    Calls Try.prog 8 #[.slice A L.length cap, .agg y.arr] w fun e w' => ListEnds w.heap.size (Tr.withL (Tr.its L) y.it) (Tr.withE (Tr.its L) y.it) e w' ∧ Bw w w' := by
  unfold Tr.withE
  obtain ⟨cA, cE, hCk⟩ : ∃ a b, Hid (Tr.chkE (Tr.its L) = (a, b)) := ⟨_, _, show Tr.chkE (Tr.its L) = _ from rfl⟩
  obtain ⟨W, hW⟩ : ∃ W, W = w.alloc (.cells y.arr 26) := ⟨_, rfl⟩
  have hbw : Bw w W := by rw [hW]; exact bw_alloc11 (Bw.refl _) _
  have hX : Hid (BoxAt W w.heap.size y) := by rw [hW]; exact BoxAt.new _ _
  have HChk : Hid (∀ u, Bw W u → Calls Try.prog 9 #[.slice A L.length cap] u fun e w' => e = .returned (.tuple #[.int .i64 (cA : Int), .int .i64 cE]) ∧ Bw u w') := fun u hu => by
    have := tcheck_any A cap L (by omega) hcap u ((ha.keep hbw).keep hu)
    rwa [hCk.out] at this
  rw [hCk.out]
  dsimp only
  have hyp := hy.fit.path
  by_cases h1 : cE = 0
  · have hz := Tr.chk_zero (t := Tr.its L) (by rw [hCk.out]; exact h1)
    have hl256 : L.length ≤ 256 := by have := hz.1; rwa [Tr.its_len] at this
    have HBs : Hid (∀ u, Bw W u → Calls Try.prog 26 #[.slice A L.length cap, .string (Nm.S y.it.path), .func (.func 27) #[] #[]] u fun e w' => ∃ c b, e = .returned (.tuple #[.int .i64 ((c : Nat) : Int), .bool b]) ∧ Tr.Place (Tr.its L) y.it.path c b ∧ Bw u w') := fun u hu =>
      bsearch_any A cap L y.it.path (by omega) (by omega) (Tr.ok_srt hz.2) u ((ha.keep hbw).keep hu)
    obtain ⟨n, hnn⟩ : ∃ n, Hid (L.length = n) := ⟨_, rfl⟩
    rw [hnn.out] at hn hcap HChk HBs hC hl256 ⊢
    rw [if_neg (by simp [h1])]
    subst h1
    have HA : Hid (ItsAt W A L) := ha.keep hbw
    have HYB : Hid (BodyAt W y) := hy.keep hbw
    have HC : Hid (A = none → n = 0 ∧ cap = 0) := hC
    obtain ⟨x0, -, -, -, -, -⟩ := hX.out.cells
    clear ha hy hz hC
    cases A with
    | some ad =>
      obtain ⟨bk, off, spot⟩ := ad
      go_enter Try.func8, Try.ntmps8
      go_upto_region 1 with fail
      rw [← hW]
      clear hW
      go_upto_region 5 with (first
        | (go_at_call 9; refine (HChk.out _ (Bw.refl _)).mono ?_; rintro e w1 ⟨rfl, hw1⟩; obtain ⟨x0', -, -, -, -, -⟩ := (hX.out.keep hw1).cells)
        | (go_at_call 26; refine (HBs.out _ hw1).mono ?_; rintro e w2 ⟨c, b, rfl, hpl, hw2⟩; have hb2 := hw1.trans hw2))
      have hcn : c ≤ n := by have := hpl.le; rwa [Tr.its_len, hnn.out] at this
      have q0 : (0 : Int) ≤ (c : Int) := Int.natCast_nonneg _
      have q1 : (c : Int) ≤ (n : Int) := by omega
      have q2 : (c : Int) ≤ (cap : Int) := by omega
      cases b with
      | true =>
        obtain ⟨z, hz1, -⟩ := hpl.there.1 rfl
        have hcl : c < n := by have := (List.getElem?_eq_some_iff.1 hz1).1; rwa [Tr.its_len, hnn.out] at this
        have q3 : (1 : Int) ≤ (n : Int) - (c : Int) := by omega
        clear hz1
        have hsp : spot = none := by
          obtain ⟨b', o', e', -, -⟩ := HA.out.at (i := c) (y := L[c]'(by rw [hnn.out]; exact hcl)) (List.getElem?_eq_getElem _)
          cases e'; rfl
        subst hsp
        obtain ⟨B, hB⟩ : ∃ B : Option Addr, Hid ((if cap - c = 1 then some (⟨bk, off + c * 6, none⟩ : Addr) else some ⟨bk, off + c * 6 + 6, none⟩) = B) := ⟨_, rfl⟩
        have hBn : Hid (B ≠ none) := by
          show _ ≠ _
          rw [← hB.out]
          split <;> (intro e; cases e)
        have HBI : Hid (ItsAt w2 B (L.drop (c + 1))) := by
          rw [← hB.out]
          split
          · rename_i hc1
            rw [List.drop_eq_nil_of_le (by rw [hnn.out]; omega)]
            exact ItsAt.nil _ _
          · have := (HA.out.keep hb2).drop (c + 1)
            rwa [show off + (c + 1) * 6 = off + c * 6 + 6 by omega] at this
        go_upto_region 8 with fail
        rw [hB.out]
        obtain ⟨x0, x1, x2, x3, x4, x5⟩ := (hX.out.keep hb2).cells
        have HX2 : Hid (BoxAt w2 w.heap.size y) := hX.out.keep hb2
        have HB2 : Hid (Bw w w2) := hbw.trans hb2
        have hwl : Hid (Tr.its (L.take c ++ [y] ++ L.drop (c + 1)) = Tr.withL (Tr.its L) y.it) := by
          obtain ⟨g1, g2⟩ := Tr.place_is hpl
          show _ = _
          unfold Tr.withL
          rw [g1, g2, Tr.its_append, Tr.its_append, Tr.its_take, Tr.its_drop]
          rfl
        have hl1 : (L.take c).length = c := by rw [List.length_take, hnn.out]; omega
        have hl3 : (L.drop (c + 1)).length = n - c - 1 := by rw [List.length_drop, hnn.out]; try omega
        have HI1 : Hid (ItsAt w2 (some ⟨bk, off, none⟩) (L.take c)) := (HA.out.keep hb2).take c
        have HYB2 : Hid (BodyAt w2 y) := HYB.out.keep hb2
        have HL : Hid ((L.take c ++ [y] ++ L.drop (c + 1)).length ≤ 257) := by
          show _ ≤ _
          rw [List.length_append, List.length_append, hl1, hl3]; simp; omega
        obtain ⟨M, hM⟩ : ∃ M, Hid (L.take c ++ [y] ++ L.drop (c + 1) = M) := ⟨_, rfl⟩
        have HCc : Hid (∀ u k, Bw w2 u → u.cell? ⟨k, 0, none⟩ = some (.slice (some ⟨bk, off, none⟩) c cap) → u.cell? ⟨k, 1, none⟩ = some (.slice (some ⟨w2.heap.size, 0, none⟩) 1 1) → u.cell? ⟨k, 2, none⟩ = some (.slice B (n - c - 1) (cap - c - 1)) → BoxAt u w2.heap.size y → Calls Try.prog 30 #[.slice (some ⟨k, 0, none⟩) 3 3] u fun e w' => ConcatEnds u.heap.size M e w' ∧ Bw u w') := fun u k hu k0 k1 k2 k3 => by
          rw [← hM.out]
          exact concat3_any k _ _ B cap 1 (cap - c - 1) (L.take c) [y] (L.drop (c + 1)) (by rw [hl1, hl3]; simp; omega) (by rw [hl1, hl3]; simp; omega) u (by rw [hl1]; exact k0) k1 (by rw [hl3]; exact k2) (HI1.out.keep hu) (its_one k3 (HYB2.out.keep hu)) (HBI.out.keep hu) (fun e => by cases e) (fun e => by cases e) (fun e => absurd e hBn.out)
        rw [hM.out] at HL hwl
        have HMb : Hid (∀ u, Bw w2 u → ∀ z ∈ M, BodyAt u z) := fun u hu z hz => by
          rw [← hM.out] at hz
          rcases List.mem_append.1 hz with hz | hz
          · rcases List.mem_append.1 hz with hz | hz
            · exact (HI1.out.keep hu).body z hz
            · rw [List.mem_singleton.1 hz]; exact HYB2.out.keep hu
          · exact (HBI.out.keep hu).body z hz
        have HKd : Hid (∀ u A1 c1, M.length ≤ c1 → (A1 = none → M.length = 0 ∧ c1 = 0) → ItsAt u A1 M → Calls Try.prog 29 #[.slice A1 M.length c1] u fun e w' => (ListEnds u.heap.size (Tr.its M) (Tr.chkE (Tr.its M)).2 e w' ∧ Bw u w') ∧ ∃ a b, e = .returned (.tuple #[a, b])) := fun u A1 c1 k2 k3 k4 => by
          have := checked_any A1 c1 M (by have := HL.out; omega) k2 k3 u k4
          refine this.mono fun e w' h => ⟨h, ?_⟩
          by_cases e0 : (Tr.chkE (Tr.its M)).2 = 0
          · obtain ⟨v, M', e1, _⟩ := h.1.2 e0; exact ⟨_, _, e1⟩
          · exact ⟨_, _, h.1.1 e0⟩
        clear hl1 hl3
        go_region_held3 (fun w' => w'.cell? ⟨w.heap.size, 0, none⟩ = some (.string (Nm.S y.it.path)) ∧ w'.cell? ⟨w.heap.size, 1, none⟩ = some (.int .u8 (y.it.kind : Int)) ∧ w'.cell? ⟨w.heap.size, 2, none⟩ = some (.int .i64 y.it.mode) ∧ w'.cell? ⟨w.heap.size, 3, none⟩ = some (.int .i64 y.it.time) ∧ w'.cell? ⟨w.heap.size, 4, none⟩ = some (.slice y.ad y.it.body.length y.cp) ∧ w'.cell? ⟨w.heap.size, 5, none⟩ = some (.string (Nm.S y.it.to)) ∧ Bw w2 w')
          (first | exact ⟨x0, x1, x2, x3, x4, x5, Below.drew (Bw.refl _)⟩ | assumption | exact keep_six11 ⟨x0, x1, x2, x3, x4, x5, Bw.refl _⟩ (by repeat (first | assumption | exact Bw.refl _ | refine Below.drew ?_ | refine bw_alloc11 ?_ _)) | exact keep_six11 (by assumption) (by assumption))
          (first
            | (go_at_call 30; obtain ⟨bX, d1, d2, d3, d4⟩ := two_built w2 y (.slice (some ⟨bk, off, none⟩) c cap) (.slice (some ⟨w2.heap.size, 0, none⟩) 1 1) (.slice B (n - c - 1) (cap - c - 1)); refine (HCc.out _ _ bX d1 d2 d3 d4).mono ?_; rintro e w7 ⟨⟨v7, rfl, ho7⟩, hw7⟩; have b7 : Bw w2 w7 := bX.trans hw7; obtain ⟨A7, c7, hv7, hle7, hI7, hni7, -⟩ := its_of_own ho7 (HMb.out w7 b7); subst hv7; have hn7 : A7 = none → M.length = 0 ∧ c7 = 0 := (fun e => by obtain ⟨g1, g2⟩ := hni7 e; exact ⟨by rw [g2]; rfl, g1⟩); clear ho7 hni7 d1 d2 d3 d4)
            | (go_at_call 29; refine (HKd.out _ A7 c7 hle7 hn7 (hI7.keep (by repeat (first | exact Bw.refl _ | refine Below.drew ?_)))).mono ?_; rintro e w8 ⟨⟨hE8, hw8⟩, r1, r2, rfl⟩; have b8 : Bw w2 w8 := Bw.trans (by repeat (first | assumption | refine Below.drew ?_)) hw8))
        rename_i hSe
        have hSw := hSe.2.2.2.2.2.2
        go_wp2
        go_ret2
        rw [← hwl.out]
        refine ⟨⟨fun h => ?_, fun h => ?_⟩, HB2.out.trans hSw⟩
        · have := hE8.1 h; exact this
        · obtain ⟨v, M', g1, g2, g3⟩ := hE8.2 h
          exact ⟨v, M', g1, g2, g3.lower (Nat.le_trans (HB2.out.trans b7).size (by first | exact Nat.le_refl _ | simp))⟩
      | false =>
        obtain ⟨B, hB⟩ : ∃ B : Option Addr, Hid ((if cap = c then some (⟨bk, off, spot⟩ : Addr) else some ((⟨bk, off, spot⟩ : Addr).add (c * 6))) = B) := ⟨_, rfl⟩
        have hBn : Hid (B ≠ none) := by
          show _ ≠ _
          rw [← hB.out]
          split <;> (intro e; cases e)
        have HBI : Hid (ItsAt w2 B (L.drop c)) := by
          rcases Nat.lt_or_ge c n with g | g
          · have hsp : spot = none := by
              obtain ⟨b', o', e', -, -⟩ := HA.out.at (i := c) (y := L[c]'(by rw [hnn.out]; exact g)) (List.getElem?_eq_getElem _)
              cases e'; rfl
            subst hsp
            rw [← hB.out, if_neg (by omega), Addr.add_lit]
            exact (HA.out.keep hb2).drop c
          · rw [List.drop_eq_nil_of_le (by rw [hnn.out]; exact g)]
            exact ItsAt.nil _ _
        go_upto_region 8 with fail
        rw [hB.out]
        obtain ⟨x0, x1, x2, x3, x4, x5⟩ := (hX.out.keep hb2).cells
        have HX2 : Hid (BoxAt w2 w.heap.size y) := hX.out.keep hb2
        have HB2 : Hid (Bw w w2) := hbw.trans hb2
        have hwl : Hid (Tr.its (L.take c ++ [y] ++ L.drop c) = Tr.withL (Tr.its L) y.it) := by
          obtain ⟨g1, g2⟩ := Tr.place_is hpl
          show _ = _
          unfold Tr.withL
          rw [g1, g2, Tr.its_append, Tr.its_append, Tr.its_take, Tr.its_drop]
          rfl
        have hl1 : (L.take c).length = c := by rw [List.length_take, hnn.out]; omega
        have hl3 : (L.drop c).length = n - c := by rw [List.length_drop, hnn.out]; try omega
        have HI1 : Hid (ItsAt w2 (some ⟨bk, off, spot⟩) (L.take c)) := (HA.out.keep hb2).take c
        have HYB2 : Hid (BodyAt w2 y) := HYB.out.keep hb2
        have HL : Hid ((L.take c ++ [y] ++ L.drop c).length ≤ 257) := by
          show _ ≤ _
          rw [List.length_append, List.length_append, hl1, hl3]; simp; omega
        obtain ⟨M, hM⟩ : ∃ M, Hid (L.take c ++ [y] ++ L.drop c = M) := ⟨_, rfl⟩
        have HCc : Hid (∀ u k, Bw w2 u → u.cell? ⟨k, 0, none⟩ = some (.slice (some ⟨bk, off, spot⟩) c cap) → u.cell? ⟨k, 1, none⟩ = some (.slice (some ⟨w2.heap.size, 0, none⟩) 1 1) → u.cell? ⟨k, 2, none⟩ = some (.slice B (n - c) (cap - c)) → BoxAt u w2.heap.size y → Calls Try.prog 30 #[.slice (some ⟨k, 0, none⟩) 3 3] u fun e w' => ConcatEnds u.heap.size M e w' ∧ Bw u w') := fun u k hu k0 k1 k2 k3 => by
          rw [← hM.out]
          exact concat3_any k _ _ B cap 1 (cap - c) (L.take c) [y] (L.drop c) (by rw [hl1, hl3]; simp; omega) (by rw [hl1, hl3]; simp; omega) u (by rw [hl1]; exact k0) k1 (by rw [hl3]; exact k2) (HI1.out.keep hu) (its_one k3 (HYB2.out.keep hu)) (HBI.out.keep hu) (fun e => by cases e) (fun e => by cases e) (fun e => absurd e hBn.out)
        rw [hM.out] at HL hwl
        have HMb : Hid (∀ u, Bw w2 u → ∀ z ∈ M, BodyAt u z) := fun u hu z hz => by
          rw [← hM.out] at hz
          rcases List.mem_append.1 hz with hz | hz
          · rcases List.mem_append.1 hz with hz | hz
            · exact (HI1.out.keep hu).body z hz
            · rw [List.mem_singleton.1 hz]; exact HYB2.out.keep hu
          · exact (HBI.out.keep hu).body z hz
        have HKd : Hid (∀ u A1 c1, M.length ≤ c1 → (A1 = none → M.length = 0 ∧ c1 = 0) → ItsAt u A1 M → Calls Try.prog 29 #[.slice A1 M.length c1] u fun e w' => (ListEnds u.heap.size (Tr.its M) (Tr.chkE (Tr.its M)).2 e w' ∧ Bw u w') ∧ ∃ a b, e = .returned (.tuple #[a, b])) := fun u A1 c1 k2 k3 k4 => by
          have := checked_any A1 c1 M (by have := HL.out; omega) k2 k3 u k4
          refine this.mono fun e w' h => ⟨h, ?_⟩
          by_cases e0 : (Tr.chkE (Tr.its M)).2 = 0
          · obtain ⟨v, M', e1, _⟩ := h.1.2 e0; exact ⟨_, _, e1⟩
          · exact ⟨_, _, h.1.1 e0⟩
        clear hl1 hl3
        go_region_held3 (fun w' => w'.cell? ⟨w.heap.size, 0, none⟩ = some (.string (Nm.S y.it.path)) ∧ w'.cell? ⟨w.heap.size, 1, none⟩ = some (.int .u8 (y.it.kind : Int)) ∧ w'.cell? ⟨w.heap.size, 2, none⟩ = some (.int .i64 y.it.mode) ∧ w'.cell? ⟨w.heap.size, 3, none⟩ = some (.int .i64 y.it.time) ∧ w'.cell? ⟨w.heap.size, 4, none⟩ = some (.slice y.ad y.it.body.length y.cp) ∧ w'.cell? ⟨w.heap.size, 5, none⟩ = some (.string (Nm.S y.it.to)) ∧ Bw w2 w')
          (first | exact ⟨x0, x1, x2, x3, x4, x5, Below.drew (Bw.refl _)⟩ | assumption | exact keep_six11 ⟨x0, x1, x2, x3, x4, x5, Bw.refl _⟩ (by repeat (first | assumption | exact Bw.refl _ | refine Below.drew ?_ | refine bw_alloc11 ?_ _)) | exact keep_six11 (by assumption) (by assumption))
          (first
            | (go_at_call 30; obtain ⟨bX, d1, d2, d3, d4⟩ := two_built w2 y (.slice (some ⟨bk, off, spot⟩) c cap) (.slice (some ⟨w2.heap.size, 0, none⟩) 1 1) (.slice B (n - c) (cap - c)); refine (HCc.out _ _ bX d1 d2 d3 d4).mono ?_; rintro e w7 ⟨⟨v7, rfl, ho7⟩, hw7⟩; have b7 : Bw w2 w7 := bX.trans hw7; obtain ⟨A7, c7, hv7, hle7, hI7, hni7, -⟩ := its_of_own ho7 (HMb.out w7 b7); subst hv7; have hn7 : A7 = none → M.length = 0 ∧ c7 = 0 := (fun e => by obtain ⟨g1, g2⟩ := hni7 e; exact ⟨by rw [g2]; rfl, g1⟩); clear ho7 hni7 d1 d2 d3 d4)
            | (go_at_call 29; refine (HKd.out _ A7 c7 hle7 hn7 (hI7.keep (by repeat (first | exact Bw.refl _ | refine Below.drew ?_)))).mono ?_; rintro e w8 ⟨⟨hE8, hw8⟩, r1, r2, rfl⟩; have b8 : Bw w2 w8 := Bw.trans (by repeat (first | assumption | refine Below.drew ?_)) hw8))
        rename_i hSe
        have hSw := hSe.2.2.2.2.2.2
        go_wp2
        go_ret2
        rw [← hwl.out]
        refine ⟨⟨fun h => ?_, fun h => ?_⟩, HB2.out.trans hSw⟩
        · have := hE8.1 h; exact this
        · obtain ⟨v, M', g1, g2, g3⟩ := hE8.2 h
          exact ⟨v, M', g1, g2, g3.lower (Nat.le_trans (HB2.out.trans b7).size (by first | exact Nat.le_refl _ | simp))⟩
    | none =>
      obtain ⟨hn0, hc0⟩ := HC.out rfl
      subst hn0; subst hc0
      have hL0 : L = [] := List.eq_nil_of_length_eq_zero hnn.out
      go_enter Try.func8, Try.ntmps8
      go_upto_region 1 with fail
      rw [← hW]
      clear hW
      go_upto_region 5 with (first
        | (go_at_call 9; refine (HChk.out _ (Bw.refl _)).mono ?_; rintro e w1 ⟨rfl, hw1⟩; obtain ⟨x0', -, -, -, -, -⟩ := (hX.out.keep hw1).cells)
        | (go_at_call 26; refine (HBs.out _ hw1).mono ?_; rintro e w2 ⟨c, b, rfl, hpl, hw2⟩; have hb2 := hw1.trans hw2))
      have hcn : c = 0 := by have := hpl.le; rw [Tr.its_len, hL0] at this; exact Nat.le_zero.1 this
      have hb0 : b = false := by
        cases b with
        | false => rfl
        | true => obtain ⟨z, hz1, -⟩ := hpl.there.1 rfl; rw [hL0] at hz1; cases hz1
      subst hcn hb0
      go_upto_region 8 with fail
      obtain ⟨x0, x1, x2, x3, x4, x5⟩ := (hX.out.keep hb2).cells
      have HX2 : Hid (BoxAt w2 w.heap.size y) := hX.out.keep hb2
      have HB2 : Hid (Bw w w2) := hbw.trans hb2
      have hwl : Hid (Tr.its [y] = Tr.withL (Tr.its L) y.it) := by
        obtain ⟨g1, g2⟩ := Tr.place_is hpl
        show _ = _
        unfold Tr.withL
        rw [g1, g2, hL0]
        rfl
      have HYB2 : Hid (BodyAt w2 y) := HYB.out.keep hb2
      have HL : Hid ([y].length ≤ 257) := by
        show _ ≤ _
        simp
      obtain ⟨M, hM⟩ : ∃ M, Hid ([y] = M) := ⟨_, rfl⟩
      have HCc : Hid (∀ u k, Bw w2 u → u.cell? ⟨k, 0, none⟩ = some (.slice none 0 0) → u.cell? ⟨k, 1, none⟩ = some (.slice (some ⟨w2.heap.size, 0, none⟩) 1 1) → u.cell? ⟨k, 2, none⟩ = some (.slice none 0 0) → BoxAt u w2.heap.size y → Calls Try.prog 30 #[.slice (some ⟨k, 0, none⟩) 3 3] u fun e w' => ConcatEnds u.heap.size M e w' ∧ Bw u w') := fun u k hu k0 k1 k2 k3 => by
        rw [← hM.out]
        exact concat3_any k none _ none 0 1 0 [] [y] [] (by simp) (by simp) u k0 k1 k2 (ItsAt.nil _ _) (its_one k3 (HYB2.out.keep hu)) (ItsAt.nil _ _) (fun _ => ⟨rfl, rfl⟩) (fun e => by cases e) (fun _ => ⟨rfl, rfl⟩)
      rw [hM.out] at HL hwl
      have HMb : Hid (∀ u, Bw w2 u → ∀ z ∈ M, BodyAt u z) := fun u hu z hz => by
        rw [← hM.out] at hz
        rw [List.mem_singleton.1 hz]; exact HYB2.out.keep hu
      have HKd : Hid (∀ u A1 c1, M.length ≤ c1 → (A1 = none → M.length = 0 ∧ c1 = 0) → ItsAt u A1 M → Calls Try.prog 29 #[.slice A1 M.length c1] u fun e w' => (ListEnds u.heap.size (Tr.its M) (Tr.chkE (Tr.its M)).2 e w' ∧ Bw u w') ∧ ∃ a b, e = .returned (.tuple #[a, b])) := fun u A1 c1 k2 k3 k4 => by
        have := checked_any A1 c1 M (by have := HL.out; omega) k2 k3 u k4
        refine this.mono fun e w' h => ⟨h, ?_⟩
        by_cases e0 : (Tr.chkE (Tr.its M)).2 = 0
        · obtain ⟨v, M', e1, _⟩ := h.1.2 e0; exact ⟨_, _, e1⟩
        · exact ⟨_, _, h.1.1 e0⟩
      go_region_held3 (fun w' => w'.cell? ⟨w.heap.size, 0, none⟩ = some (.string (Nm.S y.it.path)) ∧ w'.cell? ⟨w.heap.size, 1, none⟩ = some (.int .u8 (y.it.kind : Int)) ∧ w'.cell? ⟨w.heap.size, 2, none⟩ = some (.int .i64 y.it.mode) ∧ w'.cell? ⟨w.heap.size, 3, none⟩ = some (.int .i64 y.it.time) ∧ w'.cell? ⟨w.heap.size, 4, none⟩ = some (.slice y.ad y.it.body.length y.cp) ∧ w'.cell? ⟨w.heap.size, 5, none⟩ = some (.string (Nm.S y.it.to)) ∧ Bw w2 w')
        (first | exact ⟨x0, x1, x2, x3, x4, x5, Below.drew (Bw.refl _)⟩ | assumption | exact keep_six11 ⟨x0, x1, x2, x3, x4, x5, Bw.refl _⟩ (by repeat (first | assumption | exact Bw.refl _ | refine Below.drew ?_ | refine bw_alloc11 ?_ _)) | exact keep_six11 (by assumption) (by assumption))
        (first
          | (go_at_call 30; obtain ⟨bX, d1, d2, d3, d4⟩ := two_built w2 y (.slice none 0 0) (.slice (some ⟨w2.heap.size, 0, none⟩) 1 1) (.slice none 0 0); refine (HCc.out _ _ bX d1 d2 d3 d4).mono ?_; rintro e w7 ⟨⟨v7, rfl, ho7⟩, hw7⟩; have b7 : Bw w2 w7 := bX.trans hw7; obtain ⟨A7, c7, hv7, hle7, hI7, hni7, -⟩ := its_of_own ho7 (HMb.out w7 b7); subst hv7; have hn7 : A7 = none → M.length = 0 ∧ c7 = 0 := (fun e => by obtain ⟨g1, g2⟩ := hni7 e; exact ⟨by rw [g2]; rfl, g1⟩); clear ho7 hni7 d1 d2 d3 d4)
          | (go_at_call 29; refine (HKd.out _ A7 c7 hle7 hn7 (hI7.keep (by repeat (first | exact Bw.refl _ | refine Below.drew ?_)))).mono ?_; rintro e w8 ⟨⟨hE8, hw8⟩, r1, r2, rfl⟩; have b8 : Bw w2 w8 := Bw.trans (by repeat (first | assumption | refine Below.drew ?_)) hw8))
      rename_i hSe
      have hSw := hSe.2.2.2.2.2.2
      go_wp2
      go_ret2
      rw [← hwl.out]
      refine ⟨⟨fun h => ?_, fun h => ?_⟩, HB2.out.trans hSw⟩
      · have := hE8.1 h; exact this
      · obtain ⟨v, M', g1, g2, g3⟩ := hE8.2 h
        exact ⟨v, M', g1, g2, g3.lower (Nat.le_trans (HB2.out.trans b7).size (by first | exact Nat.le_refl _ | simp))⟩
  · obtain ⟨n, hnn⟩ : ∃ n, Hid (L.length = n) := ⟨_, rfl⟩
    rw [hnn.out] at HChk ⊢
    rw [if_pos h1]
    have q1 := Tr.i_no h1
    have H1 : Hid (cE ≠ 0) := h1
    clear h1 ha hy hn hcap hC
    go_enter Try.func8, Try.ntmps8
    go_upto_region 1 with fail
    rw [← hW]
    clear hW
    go_wp2_with (go_at_call 9; refine (HChk.out _ (Bw.refl _)).mono ?_; rintro e w1 ⟨rfl, hw1⟩)
    go_ret2
    exact ⟨⟨fun _ => rfl, fun e => absurd e H1.out⟩, hbw.trans hw1⟩
end Go.Proofs.Ytjifdoneejofiab

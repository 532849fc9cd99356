/- Texts of mine, put together. -/
import Derived.Test.YtldkhbkgmiicbaaGreatDoorBu18
import Derived.Test.YtldkhbkgmiicbaaGreatDoorBu13
import Derived.Test.YtldkhbkgmiicbaaGreatDoorBu12
import Derived.Test.YtldkhbkgmiicbaaGreatDoorBu15
import Derived.Test.YtldkhbkgmiicbaaGreatDoorBu4
import Derived.Test.YtldkhbkgmiicbaaGreatDoorBu8
import Derived.Laws.AppendOwnNone

/- The statements' helpers of layer 9: a list lent, and whether it was kept. -/
namespace Go.Proofs.YtldkhbkgmiicbaaGreatDoor
open Go.RowKit Go.Deep
set_option linter.unusedVariables false
set_option linter.unusedSimpArgs false

namespace Px
theorem cellsPr_at : ∀ (L : List Pr) (j : Nat) (u : Value), (cellsPr L)[j]? = some u → ∃ p, L[j / 2]? = some p ∧ u = if j % 2 = 0 then .string (Nm.S p.1) else .string (Nm.S p.2)
  | [], j, u, h => by simp [cellsPr] at h
  | p :: L, 0, u, h => by simp [cellsPr] at h; exact ⟨p, rfl, by simp [h]⟩
  | p :: L, 1, u, h => by simp [cellsPr] at h; exact ⟨p, rfl, by simp [h]⟩
  | p :: L, j + 2, u, h => by
    obtain ⟨q, hq, hu⟩ := cellsPr_at L j u (by simpa [cellsPr] using h)
    refine ⟨q, ?_, ?_⟩
    · rw [show (j + 2) / 2 = j / 2 + 1 by omega]; simpa using hq
    · rw [show (j + 2) % 2 = j % 2 by omega]; exact hu
theorem cellsPr_one (L : List Pr) : ∀ u ∈ cellsPr L, u.oneCell' = true := by
  intro u hu
  obtain ⟨j, hj⟩ := List.getElem?_of_mem hu
  obtain ⟨p, _, rfl⟩ := cellsPr_at L j u hj
  split <;> rfl
def mark : Pr := ([109, 97, 114, 107], [])
end Px
theorem prs_news {w : World} {b o : Nat} {L : List Px.Pr} (h : PrsAt w (some ⟨b, o, none⟩) L) : ∀ j u, (Px.cellsPr L)[j]? = some u → w.cell? ((⟨b, o, none⟩ : Addr).add j) = some u := by
  intro j u hu
  obtain ⟨p, hp, rfl⟩ := Px.cellsPr_at L j u hu
  obtain ⟨b', o', e, hc⟩ := h.at (by have := (List.getElem?_eq_some_iff.1 hp).1; omega)
  cases e
  rw [Addr.add_lit]
  obtain ⟨g1, g2⟩ := hc (j / 2) p hp
  split
  · rename_i h2
    rw [show o + j = o + j / 2 * 2 by omega]; exact g1
  · rename_i h2
    rw [show o + j = o + j / 2 * 2 + 1 by omega]; exact g2
/-- a list of pairs in memory appended to one of the call's own -/
theorem wpList_append_prs {P : Program} (w : World) {ops : Array Oper} {rest : List Oper} {o : Oper} {a : Act} {Q : Exit → Act → World → Prop} (hgd : o.guard = none) (s x : Operand) (t : TypeId)
    (ho : o.op = .call { callee := .builtin .append, args := #[s, x], argTypes := #[t, t] })
    (base : Nat) (e : TypeId) (i : TypeInfo) (z : Value) (bytes : Nat) (ht : P.underlying t = some (.slice e)) (hi : P.info? e = some i) (hz : i.zero = some z)
    (hsize : i.size = 2) (hby : i.bytes = bytes) (hzs : z.cells.size = 2)
    (v : Value) (n : Nat) (xs : List Value) (hs : a.eval s = v) (hown : w.ownsRow base e 2 v n xs)
    (A : Option Addr) (C : Nat) (L : List Px.Pr) (m : Nat) (hm : L.length = m) (hx : a.eval x = .slice A m C) (hr : PrsAt w A L) (hC : A = none → m = 0 ∧ C = 0)
    (h63 : n + m ≤ maxLen) (hbytes : (n + m) * bytes ≤ 140737488355328) (hbase : base ≤ w.heap.size)
    (h : ∀ v' w', w'.ownsRow base e 2 v' (n + m) (xs ++ Px.cellsPr L) → w.grownBy w' v.ownBlock → wpList P ops Q rest (a.put o.dst v') w') : wpList P ops Q (o :: rest) a w := by
  cases A with
  | some ad =>
    have hnews : ∀ j u, (Px.cellsPr L)[j]? = some u → w.cell? (ad.add j) = some u := by
      rcases hr with h0 | ⟨b, off, e1, h2⟩
      · intro j u hu; rw [h0] at hu; simp [Px.cellsPr] at hu
      · cases e1; exact prs_news (.inr ⟨b, off, rfl, h2⟩)
    exact wpList_append_own w hgd s x t ho base e i z 2 bytes ht hi hz hsize hby hzs (by decide) v n xs hs hown ad m C (Px.cellsPr L) hx (by rw [Px.cellsPr_len, hm]) hnews (Px.cellsPr_one L) h63 hbytes hbase (fun v' w' h1 h2 _ => h v' w' h1 h2)
  | none =>
    obtain ⟨rfl, rfl⟩ := hC rfl
    have hL : L = [] := List.eq_nil_of_length_eq_zero hm
    subst hL
    refine wpList_plain hgd fun K hK' => ?_
    have hrun := run_append_owned_none (P := P) w base t o.type e i 2 ht hi v n xs hown
    unfold Oper.wp
    simp [execOp, ho, resolve, invoke, builtin, hs, hx, hrun, Result.andThen]
    exact hK' _ _ (h v w (by simpa [Px.cellsPr] using hown) (World.grownBy.refl _ _))
theorem PrsAt.front {w : World} {A : Option Addr} {L M : List Px.Pr} (h : PrsAt w A (L ++ M)) : PrsAt w A L := by
  rcases h with h | ⟨b, off, h1, h2⟩
  · exact .inl (List.append_eq_nil_iff.1 h).1
  · exact .inr ⟨b, off, h1, fun i p hp => h2 i p (by rw [List.getElem?_append_left (List.getElem?_eq_some_iff.1 hp).1]; exact hp)⟩
end Go.Proofs.YtldkhbkgmiicbaaGreatDoor

/- Pairs of an item, of layer 12, as landed at 16cf8173: the program's own, and the document's (written by mkz1.py). -/
namespace Go.Proofs.YtldkhbkgmiicbaaGreatDoor
open Go.RowKit Go.Deep
set_option linter.unusedVariables false
set_option linter.unusedSimpArgs false

namespace Pk
abbrev B := List UInt8
def linkK : B := [108, 105, 110, 107, 112, 97, 116, 104]
def pathK : B := [112, 97, 116, 104]
/-- an item's pairs, where Split of its Path answers the error er -/
def prs (x : Tr.It) (er : Int) : List Px.Pr := (if 100 < x.to.length then [(linkK, x.to)] else []) ++ (if er ≠ 0 then [(pathK, x.path)] else [])
theorem prs_len (x : Tr.It) (er : Int) : (prs x er).length ≤ 2 := by
  unfold prs
  rw [List.length_append]
  split <;> split <;> simp
end Pk
theorem prs_new1 (w : World) (p : Px.Pr) : PrsAt (w.alloc (.cells #[.string (Nm.S p.1), .string (Nm.S p.2)] 130)) (some ⟨w.heap.size, 0, none⟩) [p] := by
  refine .inr ⟨_, 0, rfl, fun i q hq => ?_⟩
  have hg := heap_alloc_new w (.cells #[.string (Nm.S p.1), .string (Nm.S p.2)] 130)
  match i, hq with
  | 0, hq =>
    obtain rfl : p = q := by simpa using hq
    exact ⟨cell_of_row _ _ 0 _ _ _ hg, cell_of_row _ _ 1 _ _ _ hg⟩
  | k + 1, hq => simp at hq
theorem wpList_build_pr {ops : Array Oper} {rest : List Oper} {o : Oper} {a : Act} {w : World} {Q : Exit → Act → World → Prop} (hgd : o.guard = none) (x : Operand) (ho : o.op = .buildSlice 95 1 #[(0, x)])
    (p : Px.Pr) (hx : a.eval x = .agg #[.string (Nm.S p.1), .string (Nm.S p.2)])
    (h : wpList Tryz.prog ops Q rest (a.put o.dst (.slice (some ⟨w.heap.size, 0, none⟩) 1 1)) (w.alloc (.cells #[.string (Nm.S p.1), .string (Nm.S p.2)] 130))) : wpList Tryz.prog ops Q (o :: rest) a w := by
  obtain ⟨i0, hi0, hz0, hz1, hz2⟩ := info_parts info_pair
  refine wpList_buildSlice hgd 95 130 1 _ ho #[.string (Nm.S p.1), .string (Nm.S p.2)] i0 _ Tryz.underlying95 hi0 hz0 (by rw [hz1]; omega) (by rw [hz1]; omega) ?_ h
  rw [hz1]
  simp only [Array.toList_map, List.map_cons, List.map_nil, hx]
  kernel_rfl
theorem nsplitL {p a b : Pk.B} {er : Int} (hS : Nm.SplitSays p a b er) (hp : p.length ≤ 4611686018427387904) (u : World) : Calls Tryz.prog 82 #[.string (Nm.S p)] u fun e w' => e = .returned (.tuple #[.string (Nm.S a), .string (Nm.S b), .int .i64 er]) ∧ Bw u w' := by
  refine (nsplit_any (Nm.S p) (by rw [← Nm.size_toList, Nm.toList_S]; exact hp) u).mono fun e w' h => ⟨?_, h.2⟩
  obtain ⟨a', b', er', rfl, hs⟩ := h.1
  rw [Nm.toList_S] at hs
  obtain ⟨rfl, rfl, rfl⟩ := Nm.split_unique hs hS
  rfl
theorem rsplitL {p a b : Pk.B} {er : Int} (hS : Nm.SplitSays p a b er) (hp : p.length ≤ 4611686018427387904) (u : World) : Calls Tryz.prog 55 #[.string (Nm.S p)] u fun e w' => e = .returned (.tuple #[.string (Nm.S a), .string (Nm.S b), .int .i64 er]) ∧ Bw u w' := by
  refine (rsplit_any (Nm.S p) (by rw [← Nm.size_toList, Nm.toList_S]; exact hp) u).mono fun e w' h => ⟨?_, h.2⟩
  obtain ⟨a', b', er', rfl, hs⟩ := h.1
  rw [Nm.toList_S] at hs
  obtain ⟨rfl, rfl, rfl⟩ := Nm.split_unique hs hS
  rfl
set_option maxRecDepth 100000 in
theorem rcut_any {p a b : Pk.B} {er : Int} (hS : Nm.SplitSays p a b er) (hp : p.length ≤ 4611686018427387904) (u : World) : Calls Tryz.prog 54 #[.string (Nm.S p)] u fun e w' => e = .returned (.bool (er == 0)) ∧ Bw u w' := by
  have HR : Hid (∀ u, Calls Tryz.prog 55 #[.string (Nm.S p)] u fun e w' => e = .returned (.tuple #[.string (Nm.S a), .string (Nm.S b), .int .i64 er]) ∧ Bw u w') := fun u => rsplitL hS hp u
  go_enter Tryz.func54, Tryz.ntmps54
  go_wp2_with (go_at_call 55; refine (HR.out _).mono ?_; rintro e w1 ⟨rfl, hw1⟩)
  go_ret
  exact ⟨rfl, hw1⟩
set_option maxRecDepth 100000 in
set_option maxHeartbeats 4000000 in
theorem pairsof_any (y : Tr.Iv) (hf : Tr.Fit y.it) {a b : Pk.B} {er : Int} (hS : Nm.SplitSays y.it.path a b er) (w : World) : Calls Tryz.prog 59 #[.agg y.arr] w fun e w' => (∃ v, e = .returned v ∧ w'.ownsRow w.heap.size 130 2 v (Pk.prs y.it er).length (Px.cellsPr (Pk.prs y.it er))) ∧ Bw w w' := by
  obtain ⟨W, hW⟩ : ∃ W, W = w.alloc (.cells y.arr 47) := ⟨_, rfl⟩
  have hbW : Bw w W := by rw [hW]; exact bw_alloc11 (Bw.refl _) _
  have HX : Hid (BoxAt W w.heap.size y) := by rw [hW]; exact BoxAt.new _ _
  obtain ⟨i0, hi0, hz0, hz1, hz2⟩ := info_parts info_pair
  obtain ⟨H, hH⟩ : ∃ H, Hid (w.heap.size = H) := ⟨_, rfl⟩
  have HSp : Hid (∀ u, Calls Tryz.prog 82 #[.string (Nm.S y.it.path)] u fun e w' => e = .returned (.tuple #[.string (Nm.S a), .string (Nm.S b), .int .i64 er]) ∧ Bw u w') := fun u => nsplitL hS (by have := hf.path; omega) u
  obtain ⟨x0, -, -, -, -, x5⟩ := HX.out.cells
  rw [hH.out]
  go_enter Tryz.func59, Tryz.ntmps59
  go_upto_region 1 with fail
  rw [← hW]
  clear hW
  have hto : (Nm.S y.it.to).size = y.it.to.length := by rw [← Nm.size_toList, Nm.toList_S]
  rcases (show (100 < y.it.to.length ∧ er ≠ 0) ∨ (100 < y.it.to.length ∧ er = 0) ∨ (¬ 100 < y.it.to.length ∧ er ≠ 0) ∨ (¬ 100 < y.it.to.length ∧ er = 0) by omega) with ⟨h1, h2⟩ | ⟨h1, h2⟩ | ⟨h1, h2⟩ | ⟨h1, h2⟩
  · have q1 : (100 : Int) < (y.it.to.length : Int) := by omega
    have q2 : (er != 0) = true := by rw [bne_iff_ne]; exact h2
    have q3 : (er == 0) = false := by rw [beq_eq_false_iff_ne]; exact h2
    have HP : Hid (Pk.prs y.it er = [(Pk.linkK, y.it.to), (Pk.pathK, y.it.path)]) := by show _ = _; unfold Pk.prs; rw [if_pos h1, if_pos h2]; rfl
    clear h1 h2
    go_wp2_with (first
      | (refine wpList_build_pr rfl (.tmp 14) rfl (Pk.linkK, y.it.to) rfl ?_; obtain ⟨w2, hw2⟩ : ∃ V, V = W.alloc (.cells #[.string (Nm.S Pk.linkK), .string (Nm.S y.it.to)] 130) := ⟨_, rfl⟩; have hb2 : Bw W w2 := (by rw [hw2]; exact bw_alloc11 (Bw.refl _) _); have HI2 : Hid (PrsAt w2 (some ⟨W.heap.size, 0, none⟩) [(Pk.linkK, y.it.to)]) := (by rw [hw2]; exact prs_new1 _ _); rw [← hw2]; clear hw2; have hs2 : H ≤ w2.heap.size := (by rw [← hH.out]; exact (hbW.trans hb2).size))
      | (at_builtin; refine wpList_append_prs _ (by rfl) (.tmp 11) (.tmp 15) _ (by rfl) H 130 i0 _ 32 Tryz.underlying95 hi0 hz0 hz1 hz2 rfl _ _ _ (by rfl) (World.ownsRow_nil w2 _ _ _) (some ⟨W.heap.size, 0, none⟩) 1 [(Pk.linkK, y.it.to)] 1 rfl (by rfl) HI2.out (fun e => by cases e) (by unfold maxLen; omega) (by omega) hs2 ?_; intro v3 w3 ho3 hg3; have hb3 : Bw w w3 := (by have := bw_grow hg3 (base := H) (by rw [← hH.out]; exact hbW.trans hb2) hs2 (World.ownsRow_nil w2 _ 130 2); rw [← hH.out] at this; exact this); have x0' := keep_cell11 x0 (by have := bw_grow hg3 (base := W.heap.size) hb2 hb2.size (World.ownsRow_nil w2 _ 130 2); exact this); clear x0)
      | (go_at_call 82; refine (HSp.out _).mono ?_; rintro e w4 ⟨rfl, hw4⟩; have x1 := keep_cell11 x0' hw4; clear x0'; have hb4 := hb3.trans hw4)
      | (refine wpList_build_pr rfl (.tmp 29) rfl (Pk.pathK, y.it.path) rfl ?_; obtain ⟨w5, hw5⟩ : ∃ V, V = w4.alloc (.cells #[.string (Nm.S Pk.pathK), .string (Nm.S y.it.path)] 130) := ⟨_, rfl⟩; have hb5 : Bw w4 w5 := (by rw [hw5]; exact bw_alloc11 (Bw.refl _) _); have HI5 : Hid (PrsAt w5 (some ⟨w4.heap.size, 0, none⟩) [(Pk.pathK, y.it.path)]) := (by rw [hw5]; exact prs_new1 _ _); rw [← hw5]; clear hw5; have hs5 : H ≤ w5.heap.size := (by rw [← hH.out]; exact (hb4.trans hb5).size))
      | (at_builtin; refine wpList_append_prs _ (by rfl) (.tmp 26) (.tmp 30) _ (by rfl) H 130 i0 _ 32 Tryz.underlying95 hi0 hz0 hz1 hz2 rfl _ _ _ (by rfl) (own_keep ho3 (hw4.trans hb5)) (some ⟨w4.heap.size, 0, none⟩) 1 [(Pk.pathK, y.it.path)] 1 rfl (by rfl) HI5.out (fun e => by cases e) (by unfold maxLen; omega) (by omega) hs5 ?_; intro v6 w6 ho6 hg6; have hb6 : Bw w w6 := (by have := bw_grow hg6 (base := H) (by rw [← hH.out]; exact hb4.trans hb5) hs5 (own_keep ho3 (hw4.trans hb5)); rw [← hH.out] at this; exact this)))
    go_ret
    exact ⟨⟨v6, rfl, by rw [HP.out]; exact ho6⟩, hb6⟩
  · have q1 : (100 : Int) < (y.it.to.length : Int) := by omega
    have q2 : (er != 0) = false := by rw [h2]; rfl
    have q3 : (er == 0) = true := by rw [h2]; rfl
    have HP : Hid (Pk.prs y.it er = [(Pk.linkK, y.it.to)]) := by show _ = _; unfold Pk.prs; rw [if_pos h1, if_neg (fun h => h h2)]; rfl
    clear h1 h2
    go_wp2_with (first
      | (refine wpList_build_pr rfl (.tmp 14) rfl (Pk.linkK, y.it.to) rfl ?_; obtain ⟨w2, hw2⟩ : ∃ V, V = W.alloc (.cells #[.string (Nm.S Pk.linkK), .string (Nm.S y.it.to)] 130) := ⟨_, rfl⟩; have hb2 : Bw W w2 := (by rw [hw2]; exact bw_alloc11 (Bw.refl _) _); have HI2 : Hid (PrsAt w2 (some ⟨W.heap.size, 0, none⟩) [(Pk.linkK, y.it.to)]) := (by rw [hw2]; exact prs_new1 _ _); rw [← hw2]; clear hw2; have hs2 : H ≤ w2.heap.size := (by rw [← hH.out]; exact (hbW.trans hb2).size))
      | (at_builtin; refine wpList_append_prs _ (by rfl) (.tmp 11) (.tmp 15) _ (by rfl) H 130 i0 _ 32 Tryz.underlying95 hi0 hz0 hz1 hz2 rfl _ _ _ (by rfl) (World.ownsRow_nil w2 _ _ _) (some ⟨W.heap.size, 0, none⟩) 1 [(Pk.linkK, y.it.to)] 1 rfl (by rfl) HI2.out (fun e => by cases e) (by unfold maxLen; omega) (by omega) hs2 ?_; intro v3 w3 ho3 hg3; have hb3 : Bw w w3 := (by have := bw_grow hg3 (base := H) (by rw [← hH.out]; exact hbW.trans hb2) hs2 (World.ownsRow_nil w2 _ 130 2); rw [← hH.out] at this; exact this); have x0' := keep_cell11 x0 (by have := bw_grow hg3 (base := W.heap.size) hb2 hb2.size (World.ownsRow_nil w2 _ 130 2); exact this); clear x0)
      | (go_at_call 82; refine (HSp.out _).mono ?_; rintro e w4 ⟨rfl, hw4⟩; have x1 := keep_cell11 x0' hw4; clear x0'; have hb4 := hb3.trans hw4))
    go_ret
    exact ⟨⟨v3, rfl, by rw [HP.out]; exact own_keep ho3 hw4⟩, hb4⟩
  · have q1 : ¬ (100 : Int) < (y.it.to.length : Int) := by omega
    have q2 : (er != 0) = true := by rw [bne_iff_ne]; exact h2
    have q3 : (er == 0) = false := by rw [beq_eq_false_iff_ne]; exact h2
    have HP : Hid (Pk.prs y.it er = [(Pk.pathK, y.it.path)]) := by show _ = _; unfold Pk.prs; rw [if_neg h1, if_pos h2]; rfl
    clear h1 h2
    have x0' := x0
    clear x0
    have hb3 := hbW
    go_wp2_with (first
      | (go_at_call 82; refine (HSp.out _).mono ?_; rintro e w4 ⟨rfl, hw4⟩; have x1 := keep_cell11 x0' hw4; clear x0'; have hb4 := hb3.trans hw4)
      | (refine wpList_build_pr rfl (.tmp 29) rfl (Pk.pathK, y.it.path) rfl ?_; obtain ⟨w5, hw5⟩ : ∃ V, V = w4.alloc (.cells #[.string (Nm.S Pk.pathK), .string (Nm.S y.it.path)] 130) := ⟨_, rfl⟩; have hb5 : Bw w4 w5 := (by rw [hw5]; exact bw_alloc11 (Bw.refl _) _); have HI5 : Hid (PrsAt w5 (some ⟨w4.heap.size, 0, none⟩) [(Pk.pathK, y.it.path)]) := (by rw [hw5]; exact prs_new1 _ _); rw [← hw5]; clear hw5; have hs5 : H ≤ w5.heap.size := (by rw [← hH.out]; exact (hb4.trans hb5).size))
      | (at_builtin; refine wpList_append_prs _ (by rfl) (.tmp 26) (.tmp 30) _ (by rfl) H 130 i0 _ 32 Tryz.underlying95 hi0 hz0 hz1 hz2 rfl _ _ _ (by rfl) (World.ownsRow_nil w5 _ _ _) (some ⟨w4.heap.size, 0, none⟩) 1 [(Pk.pathK, y.it.path)] 1 rfl (by rfl) HI5.out (fun e => by cases e) (by unfold maxLen; omega) (by omega) hs5 ?_; intro v6 w6 ho6 hg6; have hb6 : Bw w w6 := (by have := bw_grow hg6 (base := H) (by rw [← hH.out]; exact hb4.trans hb5) hs5 (World.ownsRow_nil w5 _ 130 2); rw [← hH.out] at this; exact this)))
    go_ret
    exact ⟨⟨v6, rfl, by rw [HP.out]; exact ho6⟩, hb6⟩
  · have q1 : ¬ (100 : Int) < (y.it.to.length : Int) := by omega
    have q2 : (er != 0) = false := by rw [h2]; rfl
    have q3 : (er == 0) = true := by rw [h2]; rfl
    have HP : Hid (Pk.prs y.it er = []) := by show _ = _; unfold Pk.prs; rw [if_neg h1, if_neg (fun h => h h2)]; rfl
    clear h1 h2
    have x0' := x0
    clear x0
    have hb3 := hbW
    go_wp2_with (first
      | (go_at_call 82; refine (HSp.out _).mono ?_; rintro e w4 ⟨rfl, hw4⟩; have x1 := keep_cell11 x0' hw4; clear x0'; have hb4 := hb3.trans hw4))
    go_ret
    exact ⟨⟨(.slice none 0 0), rfl, by rw [HP.out]; exact World.ownsRow_nil _ _ _ _⟩, hb4⟩
/-- what Pairs answers -/
def PairsEnds (base : Nat) (x : Tr.It) (er : Int) (e : Ending) (w' : World) : Prop :=
  (Tr.mayE x ≠ 0 → e = .returned (.tuple #[.slice none 0 0, .int .i64 (Tr.mayE x)])) ∧ (Tr.mayE x = 0 → ∃ v, e = .returned (.tuple #[v, .int .i64 0]) ∧ w'.ownsRow base 130 2 v (Pk.prs x er).length (Px.cellsPr (Pk.prs x er)))
set_option maxRecDepth 100000 in
set_option maxHeartbeats 4000000 in
theorem rpairs_any (y : Tr.Iv) (hf : Tr.Fit y.it) {a b : Pk.B} {er : Int} (hS : Nm.SplitSays y.it.path a b er) (w : World) : Calls Tryz.prog 49 #[.agg y.arr] w fun e w' => PairsEnds w.heap.size y.it er e w' ∧ Bw w w' := by
  obtain ⟨W0, hW⟩ : ∃ W, W = w.alloc (.cells y.arr 47) := ⟨_, rfl⟩
  have hbW0 : Bw w W0 := by rw [hW]; exact bw_alloc11 (Bw.refl _) _
  have HX : Hid (BoxAt W0 w.heap.size y) := by rw [hW]; exact BoxAt.new _ _
  obtain ⟨i0, hi0, hz0, hz1, hz2⟩ := info_parts info_pair
  obtain ⟨H, hH⟩ : ∃ H, Hid (w.heap.size = H) := ⟨_, rfl⟩
  unfold PairsEnds
  obtain ⟨em, hem⟩ : ∃ r, Hid (Tr.mayE y.it = r) := ⟨_, rfl⟩
  have HMay : Hid (∀ u, Calls Tryz.prog 45 #[.agg y.arr] u fun e w' => e = .returned (.int .i64 em) ∧ Bw u w') := fun u => by rw [← hem.out]; exact rmay_any y hf u
  have HCu : Hid (∀ u, Calls Tryz.prog 54 #[.string (Nm.S y.it.path)] u fun e w' => e = .returned (.bool (er == 0)) ∧ Bw u w') := fun u => rcut_any hS (by have := hf.path; omega) u
  rw [hem.out, hH.out]
  by_cases h0 : em = 0
  case neg =>
    have q1 := Tr.i_no h0
    have HE : Hid (em ≠ 0) := h0
    clear h0
    go_enter Tryz.func49, Tryz.ntmps49
    go_upto_region 1 with fail
    rw [← hW]
    clear hW
    go_wp2_with (first
      | refine wpList_load_it (by rfl) (.tmp 1) rfl w.heap.size 0 rfl y HX.out.it ?_
      | (go_at_call 45; refine (HMay.out _).mono ?_; rintro e w1 ⟨rfl, hw1⟩))
    go_ret2
    exact ⟨⟨fun _ => rfl, fun e => absurd e HE.out⟩, hbW0.trans hw1⟩
  subst h0
  have hto : (Nm.S y.it.to).size = y.it.to.length := by rw [← Nm.size_toList, Nm.toList_S]
  go_enter Tryz.func49, Tryz.ntmps49
  go_upto_region 1 with fail
  rw [← hW]
  clear hW
  go_upto_region 4 with (first
      | refine wpList_load_it (by rfl) (.tmp 1) rfl w.heap.size 0 rfl y HX.out.it ?_
      | (go_at_call 45; refine (HMay.out _).mono ?_; rintro e W ⟨rfl, hw1⟩))
  have hbW := hbW0.trans hw1
  obtain ⟨x0, -, -, -, -, x5⟩ := (HX.out.keep hw1).cells
  clear hbW0 hw1
  rcases (show (100 < y.it.to.length ∧ er ≠ 0) ∨ (100 < y.it.to.length ∧ er = 0) ∨ (¬ 100 < y.it.to.length ∧ er ≠ 0) ∨ (¬ 100 < y.it.to.length ∧ er = 0) by omega) with ⟨h1, h2⟩ | ⟨h1, h2⟩ | ⟨h1, h2⟩ | ⟨h1, h2⟩
  · have q1 : (100 : Int) < (y.it.to.length : Int) := by omega
    have q2 : (er != 0) = true := by rw [bne_iff_ne]; exact h2
    have q3 : (er == 0) = false := by rw [beq_eq_false_iff_ne]; exact h2
    have HP : Hid (Pk.prs y.it er = [(Pk.linkK, y.it.to), (Pk.pathK, y.it.path)]) := by show _ = _; unfold Pk.prs; rw [if_pos h1, if_pos h2]; rfl
    clear h1 h2
    go_wp2_with (first
      | (refine wpList_build_pr rfl (.tmp 18) rfl (Pk.linkK, y.it.to) rfl ?_; obtain ⟨w2, hw2⟩ : ∃ V, V = W.alloc (.cells #[.string (Nm.S Pk.linkK), .string (Nm.S y.it.to)] 130) := ⟨_, rfl⟩; have hb2 : Bw W w2 := (by rw [hw2]; exact bw_alloc11 (Bw.refl _) _); have HI2 : Hid (PrsAt w2 (some ⟨W.heap.size, 0, none⟩) [(Pk.linkK, y.it.to)]) := (by rw [hw2]; exact prs_new1 _ _); rw [← hw2]; clear hw2; have hs2 : H ≤ w2.heap.size := (by rw [← hH.out]; exact (hbW.trans hb2).size))
      | (at_builtin; refine wpList_append_prs _ (by rfl) (.tmp 15) (.tmp 19) _ (by rfl) H 130 i0 _ 32 Tryz.underlying95 hi0 hz0 hz1 hz2 rfl _ _ _ (by rfl) (World.ownsRow_nil w2 _ _ _) (some ⟨W.heap.size, 0, none⟩) 1 [(Pk.linkK, y.it.to)] 1 rfl (by rfl) HI2.out (fun e => by cases e) (by unfold maxLen; omega) (by omega) hs2 ?_; intro v3 w3 ho3 hg3; have hb3 : Bw w w3 := (by have := bw_grow hg3 (base := H) (by rw [← hH.out]; exact hbW.trans hb2) hs2 (World.ownsRow_nil w2 _ 130 2); rw [← hH.out] at this; exact this); have x0' := keep_cell11 x0 (by have := bw_grow hg3 (base := W.heap.size) hb2 hb2.size (World.ownsRow_nil w2 _ 130 2); exact this); clear x0)
      | (go_at_call 54; refine (HCu.out _).mono ?_; rintro e w4 ⟨rfl, hw4⟩; have x1 := keep_cell11 x0' hw4; clear x0'; have hb4 := hb3.trans hw4)
      | (refine wpList_build_pr rfl (.tmp 28) rfl (Pk.pathK, y.it.path) rfl ?_; obtain ⟨w5, hw5⟩ : ∃ V, V = w4.alloc (.cells #[.string (Nm.S Pk.pathK), .string (Nm.S y.it.path)] 130) := ⟨_, rfl⟩; have hb5 : Bw w4 w5 := (by rw [hw5]; exact bw_alloc11 (Bw.refl _) _); have HI5 : Hid (PrsAt w5 (some ⟨w4.heap.size, 0, none⟩) [(Pk.pathK, y.it.path)]) := (by rw [hw5]; exact prs_new1 _ _); rw [← hw5]; clear hw5; have hs5 : H ≤ w5.heap.size := (by rw [← hH.out]; exact (hb4.trans hb5).size))
      | (at_builtin; refine wpList_append_prs _ (by rfl) (.tmp 25) (.tmp 29) _ (by rfl) H 130 i0 _ 32 Tryz.underlying95 hi0 hz0 hz1 hz2 rfl _ _ _ (by rfl) (own_keep ho3 (hw4.trans hb5)) (some ⟨w4.heap.size, 0, none⟩) 1 [(Pk.pathK, y.it.path)] 1 rfl (by rfl) HI5.out (fun e => by cases e) (by unfold maxLen; omega) (by omega) hs5 ?_; intro v6 w6 ho6 hg6; have hb6 : Bw w w6 := (by have := bw_grow hg6 (base := H) (by rw [← hH.out]; exact hb4.trans hb5) hs5 (own_keep ho3 (hw4.trans hb5)); rw [← hH.out] at this; exact this)))
    go_ret2
    exact ⟨⟨fun e => absurd rfl e, fun _ => ⟨v6, rfl, by rw [HP.out]; exact ho6⟩⟩, hb6⟩
  · have q1 : (100 : Int) < (y.it.to.length : Int) := by omega
    have q2 : (er != 0) = false := by rw [h2]; rfl
    have q3 : (er == 0) = true := by rw [h2]; rfl
    have HP : Hid (Pk.prs y.it er = [(Pk.linkK, y.it.to)]) := by show _ = _; unfold Pk.prs; rw [if_pos h1, if_neg (fun h => h h2)]; rfl
    clear h1 h2
    go_wp2_with (first
      | (refine wpList_build_pr rfl (.tmp 18) rfl (Pk.linkK, y.it.to) rfl ?_; obtain ⟨w2, hw2⟩ : ∃ V, V = W.alloc (.cells #[.string (Nm.S Pk.linkK), .string (Nm.S y.it.to)] 130) := ⟨_, rfl⟩; have hb2 : Bw W w2 := (by rw [hw2]; exact bw_alloc11 (Bw.refl _) _); have HI2 : Hid (PrsAt w2 (some ⟨W.heap.size, 0, none⟩) [(Pk.linkK, y.it.to)]) := (by rw [hw2]; exact prs_new1 _ _); rw [← hw2]; clear hw2; have hs2 : H ≤ w2.heap.size := (by rw [← hH.out]; exact (hbW.trans hb2).size))
      | (at_builtin; refine wpList_append_prs _ (by rfl) (.tmp 15) (.tmp 19) _ (by rfl) H 130 i0 _ 32 Tryz.underlying95 hi0 hz0 hz1 hz2 rfl _ _ _ (by rfl) (World.ownsRow_nil w2 _ _ _) (some ⟨W.heap.size, 0, none⟩) 1 [(Pk.linkK, y.it.to)] 1 rfl (by rfl) HI2.out (fun e => by cases e) (by unfold maxLen; omega) (by omega) hs2 ?_; intro v3 w3 ho3 hg3; have hb3 : Bw w w3 := (by have := bw_grow hg3 (base := H) (by rw [← hH.out]; exact hbW.trans hb2) hs2 (World.ownsRow_nil w2 _ 130 2); rw [← hH.out] at this; exact this); have x0' := keep_cell11 x0 (by have := bw_grow hg3 (base := W.heap.size) hb2 hb2.size (World.ownsRow_nil w2 _ 130 2); exact this); clear x0)
      | (go_at_call 54; refine (HCu.out _).mono ?_; rintro e w4 ⟨rfl, hw4⟩; have x1 := keep_cell11 x0' hw4; clear x0'; have hb4 := hb3.trans hw4))
    go_ret2
    exact ⟨⟨fun e => absurd rfl e, fun _ => ⟨v3, rfl, by rw [HP.out]; exact own_keep ho3 hw4⟩⟩, hb4⟩
  · have q1 : ¬ (100 : Int) < (y.it.to.length : Int) := by omega
    have q2 : (er != 0) = true := by rw [bne_iff_ne]; exact h2
    have q3 : (er == 0) = false := by rw [beq_eq_false_iff_ne]; exact h2
    have HP : Hid (Pk.prs y.it er = [(Pk.pathK, y.it.path)]) := by show _ = _; unfold Pk.prs; rw [if_neg h1, if_pos h2]; rfl
    clear h1 h2
    have x0' := x0
    clear x0
    have hb3 := hbW
    go_wp2_with (first
      | (go_at_call 54; refine (HCu.out _).mono ?_; rintro e w4 ⟨rfl, hw4⟩; have x1 := keep_cell11 x0' hw4; clear x0'; have hb4 := hb3.trans hw4)
      | (refine wpList_build_pr rfl (.tmp 28) rfl (Pk.pathK, y.it.path) rfl ?_; obtain ⟨w5, hw5⟩ : ∃ V, V = w4.alloc (.cells #[.string (Nm.S Pk.pathK), .string (Nm.S y.it.path)] 130) := ⟨_, rfl⟩; have hb5 : Bw w4 w5 := (by rw [hw5]; exact bw_alloc11 (Bw.refl _) _); have HI5 : Hid (PrsAt w5 (some ⟨w4.heap.size, 0, none⟩) [(Pk.pathK, y.it.path)]) := (by rw [hw5]; exact prs_new1 _ _); rw [← hw5]; clear hw5; have hs5 : H ≤ w5.heap.size := (by rw [← hH.out]; exact (hb4.trans hb5).size))
      | (at_builtin; refine wpList_append_prs _ (by rfl) (.tmp 25) (.tmp 29) _ (by rfl) H 130 i0 _ 32 Tryz.underlying95 hi0 hz0 hz1 hz2 rfl _ _ _ (by rfl) (World.ownsRow_nil w5 _ _ _) (some ⟨w4.heap.size, 0, none⟩) 1 [(Pk.pathK, y.it.path)] 1 rfl (by rfl) HI5.out (fun e => by cases e) (by unfold maxLen; omega) (by omega) hs5 ?_; intro v6 w6 ho6 hg6; have hb6 : Bw w w6 := (by have := bw_grow hg6 (base := H) (by rw [← hH.out]; exact hb4.trans hb5) hs5 (World.ownsRow_nil w5 _ 130 2); rw [← hH.out] at this; exact this)))
    go_ret2
    exact ⟨⟨fun e => absurd rfl e, fun _ => ⟨v6, rfl, by rw [HP.out]; exact ho6⟩⟩, hb6⟩
  · have q1 : ¬ (100 : Int) < (y.it.to.length : Int) := by omega
    have q2 : (er != 0) = false := by rw [h2]; rfl
    have q3 : (er == 0) = true := by rw [h2]; rfl
    have HP : Hid (Pk.prs y.it er = []) := by show _ = _; unfold Pk.prs; rw [if_neg h1, if_neg (fun h => h h2)]; rfl
    clear h1 h2
    have x0' := x0
    clear x0
    have hb3 := hbW
    go_wp2_with (first
      | (go_at_call 54; refine (HCu.out _).mono ?_; rintro e w4 ⟨rfl, hw4⟩; have x1 := keep_cell11 x0' hw4; clear x0'; have hb4 := hb3.trans hw4))
    go_ret2
    exact ⟨⟨fun e => absurd rfl e, fun _ => ⟨(.slice none 0 0), rfl, by rw [HP.out]; exact World.ownsRow_nil _ _ _ _⟩⟩, hb4⟩
end Go.Proofs.YtldkhbkgmiicbaaGreatDoor

/- Texts of mine, put together. -/
import Derived.Test.YtldkhbkgmiicbabGreatDoorBu10
import Derived.Test.YtldkhbkgmiicbabGreatDoorBu9
import Derived.Test.YtldkhbkgmiicbabGreatDoorBu12
import Derived.Test.YtldkhbkgmiicbabGreatDoorBu14
import Derived.Test.YtldkhbkgmiicbabGreatDoorBu3
import Derived.Test.YtldkhbkgmiicbabGreatDoorBu6
import Derived.Test.YtldkhbkgmiicbabGreatDoorBu1

/- Pairs of an item, of layer 12, as landed at 16cf8173: the program's own, and the document's (written by mkz1.py). -/
namespace Go.Proofs.YtldkhbkgmiicbabGreatDoor
open Go.RowKit Go.Deep
set_option linter.unusedVariables false
set_option linter.unusedSimpArgs false

namespace Pk
abbrev B := List UInt8
def linkK : B := [108, 105, 110, 107, 112, 97, 116, 104]
def pathK : B := [112, 97, 116, 104]
/-- an item's pairs, where Split of its Path answers the error er -/
def prs (x : Tr.It) (er : Int) : List Px.Pr := (if 100 < x.to.length then [(linkK, x.to)] else []) ++ (if er ≠ 0 then [(pathK, x.path)] else [])
theorem prs_len (x : Tr.It) (er : Int) : (prs x er).length ≤ 2 := by
  unfold prs
  rw [List.length_append]
  split <;> split <;> simp
theorem split_ex (l : B) : ∃ a b er, Nm.SplitSays l a b er := by
  by_cases h : (Nm.check l).2 = 0
  · by_cases h1 : l.length ≤ 100
    · exact ⟨[], l, 0, fun k => absurd h k, fun _ _ => ⟨rfl, rfl, rfl⟩, fun _ k => by omega, fun _ k => by omega⟩
    · rcases Nm.last_cut l with hc | ⟨i, hi, hn⟩
      · exact ⟨[], [], 2, fun k => absurd h k, fun _ k => absurd k h1, fun _ _ j hj => absurd hj (hc j), fun _ _ _ => ⟨rfl, rfl, rfl⟩⟩
      · refine ⟨l.take i, l.drop (i + 1), 0, fun k => absurd h k, fun _ k => absurd k h1, fun _ _ j hj hjn => ?_, fun _ _ k => absurd hi (k i)⟩
        have : i = j := by
          rcases Nat.lt_trichotomy i j with g | g | g
          · exact absurd hj (hn j g)
          · exact g
          · exact absurd hi (hjn i g)
        rw [this]; exact ⟨rfl, rfl, rfl⟩
  · exact ⟨[], [], (Nm.check l).2, fun _ => ⟨rfl, rfl, rfl⟩, fun k => absurd k h, fun k => absurd k h, fun k => absurd k h⟩
end Pk
theorem prs_new1 (w : World) (p : Px.Pr) : PrsAt (w.alloc (.cells #[.string (Nm.S p.1), .string (Nm.S p.2)] 42)) (some ⟨w.heap.size, 0, none⟩) [p] := by
  refine .inr ⟨_, 0, rfl, fun i q hq => ?_⟩
  have hg := heap_alloc_new w (.cells #[.string (Nm.S p.1), .string (Nm.S p.2)] 42)
  match i, hq with
  | 0, hq =>
    obtain rfl : p = q := by simpa using hq
    exact ⟨cell_of_row _ _ 0 _ _ _ hg, cell_of_row _ _ 1 _ _ _ hg⟩
  | k + 1, hq => simp at hq
theorem wpList_build_pr {ops : Array Oper} {rest : List Oper} {o : Oper} {a : Act} {w : World} {Q : Exit → Act → World → Prop} (hgd : o.guard = none) (x : Operand) (ho : o.op = .buildSlice 37 1 #[(0, x)])
    (p : Px.Pr) (hx : a.eval x = .agg #[.string (Nm.S p.1), .string (Nm.S p.2)])
    (h : wpList Tryz.prog ops Q rest (a.put o.dst (.slice (some ⟨w.heap.size, 0, none⟩) 1 1)) (w.alloc (.cells #[.string (Nm.S p.1), .string (Nm.S p.2)] 42))) : wpList Tryz.prog ops Q (o :: rest) a w := by
  obtain ⟨i0, hi0, hz0, hz1, hz2⟩ := info_parts info_pair
  refine wpList_buildSlice hgd 37 42 1 _ ho #[.string (Nm.S p.1), .string (Nm.S p.2)] i0 _ Tryz.underlying37 hi0 hz0 (by rw [hz1]; omega) (by rw [hz1]; omega) ?_ h
  rw [hz1]
  simp only [Array.toList_map, List.map_cons, List.map_nil, hx]
  kernel_rfl
theorem nsplitL {p a b : Pk.B} {er : Int} (hS : Nm.SplitSays p a b er) (hp : p.length ≤ 4611686018427387904) (u : World) : Calls Tryz.prog 38 #[.string (Nm.S p)] u fun e w' => e = .returned (.tuple #[.string (Nm.S a), .string (Nm.S b), .int .i64 er]) ∧ Bw u w' := by
  refine (nsplit_any (Nm.S p) (by rw [← Nm.size_toList, Nm.toList_S]; exact hp) u).mono fun e w' h => ⟨?_, h.2⟩
  obtain ⟨a', b', er', rfl, hs⟩ := h.1
  rw [Nm.toList_S] at hs
  obtain ⟨rfl, rfl, rfl⟩ := Nm.split_unique hs hS
  rfl
set_option maxRecDepth 100000 in
set_option maxHeartbeats 4000000 in
theorem pairsof_any (y : Tr.Iv) (hf : Tr.Fit y.it) {a b : Pk.B} {er : Int} (hS : Nm.SplitSays y.it.path a b er) (w : World) : Calls Tryz.prog 26 #[.agg y.arr] w fun e w' => (∃ v, e = .returned v ∧ w'.ownsRow w.heap.size 42 2 v (Pk.prs y.it er).length (Px.cellsPr (Pk.prs y.it er))) ∧ Bw w w' := by
  obtain ⟨W, hW⟩ : ∃ W, W = w.alloc (.cells y.arr 26) := ⟨_, rfl⟩
  have hbW : Bw w W := by rw [hW]; exact bw_alloc11 (Bw.refl _) _
  have HX : Hid (BoxAt W w.heap.size y) := by rw [hW]; exact BoxAt.new _ _
  obtain ⟨i0, hi0, hz0, hz1, hz2⟩ := info_parts info_pair
  obtain ⟨H, hH⟩ : ∃ H, Hid (w.heap.size = H) := ⟨_, rfl⟩
  have HSp : Hid (∀ u, Calls Tryz.prog 38 #[.string (Nm.S y.it.path)] u fun e w' => e = .returned (.tuple #[.string (Nm.S a), .string (Nm.S b), .int .i64 er]) ∧ Bw u w') := fun u => nsplitL hS (by have := hf.path; omega) u
  obtain ⟨x0, -, -, -, -, x5⟩ := HX.out.cells
  rw [hH.out]
  go_enter Tryz.func26, Tryz.ntmps26
  go_upto_region 1 with fail
  rw [← hW]
  clear hW
  have hto : (Nm.S y.it.to).size = y.it.to.length := by rw [← Nm.size_toList, Nm.toList_S]
  rcases (show (100 < y.it.to.length ∧ er ≠ 0) ∨ (100 < y.it.to.length ∧ er = 0) ∨ (¬ 100 < y.it.to.length ∧ er ≠ 0) ∨ (¬ 100 < y.it.to.length ∧ er = 0) by omega) with ⟨h1, h2⟩ | ⟨h1, h2⟩ | ⟨h1, h2⟩ | ⟨h1, h2⟩
  · have q1 : (100 : Int) < (y.it.to.length : Int) := by omega
    have q2 : (er != 0) = true := by rw [bne_iff_ne]; exact h2
    have q3 : (er == 0) = false := by rw [beq_eq_false_iff_ne]; exact h2
    have HP : Hid (Pk.prs y.it er = [(Pk.linkK, y.it.to), (Pk.pathK, y.it.path)]) := by show _ = _; unfold Pk.prs; rw [if_pos h1, if_pos h2]; rfl
    clear h1 h2
    go_wp2_with (first
      | (refine wpList_build_pr rfl (.tmp 14) rfl (Pk.linkK, y.it.to) rfl ?_; obtain ⟨w2, hw2⟩ : ∃ V, V = W.alloc (.cells #[.string (Nm.S Pk.linkK), .string (Nm.S y.it.to)] 42) := ⟨_, rfl⟩; have hb2 : Bw W w2 := (by rw [hw2]; exact bw_alloc11 (Bw.refl _) _); have HI2 : Hid (PrsAt w2 (some ⟨W.heap.size, 0, none⟩) [(Pk.linkK, y.it.to)]) := (by rw [hw2]; exact prs_new1 _ _); rw [← hw2]; clear hw2; have hs2 : H ≤ w2.heap.size := (by rw [← hH.out]; exact (hbW.trans hb2).size))
      | (at_builtin; refine wpList_append_prs _ (by rfl) (.tmp 11) (.tmp 15) _ (by rfl) H 42 i0 _ 32 Tryz.underlying37 hi0 hz0 hz1 hz2 rfl _ _ _ (by rfl) (World.ownsRow_nil w2 _ _ _) (some ⟨W.heap.size, 0, none⟩) 1 [(Pk.linkK, y.it.to)] 1 rfl (by rfl) HI2.out (fun e => by cases e) (by unfold maxLen; omega) (by omega) hs2 ?_; intro v3 w3 ho3 hg3; have hb3 : Bw w w3 := (by have := bw_grow hg3 (base := H) (by rw [← hH.out]; exact hbW.trans hb2) hs2 (World.ownsRow_nil w2 _ 42 2); rw [← hH.out] at this; exact this); have x0' := keep_cell11 x0 (by have := bw_grow hg3 (base := W.heap.size) hb2 hb2.size (World.ownsRow_nil w2 _ 42 2); exact this); clear x0)
      | (go_at_call 38; refine (HSp.out _).mono ?_; rintro e w4 ⟨rfl, hw4⟩; have x1 := keep_cell11 x0' hw4; clear x0'; have hb4 := hb3.trans hw4)
      | (refine wpList_build_pr rfl (.tmp 29) rfl (Pk.pathK, y.it.path) rfl ?_; obtain ⟨w5, hw5⟩ : ∃ V, V = w4.alloc (.cells #[.string (Nm.S Pk.pathK), .string (Nm.S y.it.path)] 42) := ⟨_, rfl⟩; have hb5 : Bw w4 w5 := (by rw [hw5]; exact bw_alloc11 (Bw.refl _) _); have HI5 : Hid (PrsAt w5 (some ⟨w4.heap.size, 0, none⟩) [(Pk.pathK, y.it.path)]) := (by rw [hw5]; exact prs_new1 _ _); rw [← hw5]; clear hw5; have hs5 : H ≤ w5.heap.size := (by rw [← hH.out]; exact (hb4.trans hb5).size))
      | (at_builtin; refine wpList_append_prs _ (by rfl) (.tmp 26) (.tmp 30) _ (by rfl) H 42 i0 _ 32 Tryz.underlying37 hi0 hz0 hz1 hz2 rfl _ _ _ (by rfl) (own_keep ho3 (hw4.trans hb5)) (some ⟨w4.heap.size, 0, none⟩) 1 [(Pk.pathK, y.it.path)] 1 rfl (by rfl) HI5.out (fun e => by cases e) (by unfold maxLen; omega) (by omega) hs5 ?_; intro v6 w6 ho6 hg6; have hb6 : Bw w w6 := (by have := bw_grow hg6 (base := H) (by rw [← hH.out]; exact hb4.trans hb5) hs5 (own_keep ho3 (hw4.trans hb5)); rw [← hH.out] at this; exact this)))
    go_ret
    exact ⟨⟨v6, rfl, by rw [HP.out]; exact ho6⟩, hb6⟩
  · have q1 : (100 : Int) < (y.it.to.length : Int) := by omega
    have q2 : (er != 0) = false := by rw [h2]; rfl
    have q3 : (er == 0) = true := by rw [h2]; rfl
    have HP : Hid (Pk.prs y.it er = [(Pk.linkK, y.it.to)]) := by show _ = _; unfold Pk.prs; rw [if_pos h1, if_neg (fun h => h h2)]; rfl
    clear h1 h2
    go_wp2_with (first
      | (refine wpList_build_pr rfl (.tmp 14) rfl (Pk.linkK, y.it.to) rfl ?_; obtain ⟨w2, hw2⟩ : ∃ V, V = W.alloc (.cells #[.string (Nm.S Pk.linkK), .string (Nm.S y.it.to)] 42) := ⟨_, rfl⟩; have hb2 : Bw W w2 := (by rw [hw2]; exact bw_alloc11 (Bw.refl _) _); have HI2 : Hid (PrsAt w2 (some ⟨W.heap.size, 0, none⟩) [(Pk.linkK, y.it.to)]) := (by rw [hw2]; exact prs_new1 _ _); rw [← hw2]; clear hw2; have hs2 : H ≤ w2.heap.size := (by rw [← hH.out]; exact (hbW.trans hb2).size))
      | (at_builtin; refine wpList_append_prs _ (by rfl) (.tmp 11) (.tmp 15) _ (by rfl) H 42 i0 _ 32 Tryz.underlying37 hi0 hz0 hz1 hz2 rfl _ _ _ (by rfl) (World.ownsRow_nil w2 _ _ _) (some ⟨W.heap.size, 0, none⟩) 1 [(Pk.linkK, y.it.to)] 1 rfl (by rfl) HI2.out (fun e => by cases e) (by unfold maxLen; omega) (by omega) hs2 ?_; intro v3 w3 ho3 hg3; have hb3 : Bw w w3 := (by have := bw_grow hg3 (base := H) (by rw [← hH.out]; exact hbW.trans hb2) hs2 (World.ownsRow_nil w2 _ 42 2); rw [← hH.out] at this; exact this); have x0' := keep_cell11 x0 (by have := bw_grow hg3 (base := W.heap.size) hb2 hb2.size (World.ownsRow_nil w2 _ 42 2); exact this); clear x0)
      | (go_at_call 38; refine (HSp.out _).mono ?_; rintro e w4 ⟨rfl, hw4⟩; have x1 := keep_cell11 x0' hw4; clear x0'; have hb4 := hb3.trans hw4))
    go_ret
    exact ⟨⟨v3, rfl, by rw [HP.out]; exact own_keep ho3 hw4⟩, hb4⟩
  · have q1 : ¬ (100 : Int) < (y.it.to.length : Int) := by omega
    have q2 : (er != 0) = true := by rw [bne_iff_ne]; exact h2
    have q3 : (er == 0) = false := by rw [beq_eq_false_iff_ne]; exact h2
    have HP : Hid (Pk.prs y.it er = [(Pk.pathK, y.it.path)]) := by show _ = _; unfold Pk.prs; rw [if_neg h1, if_pos h2]; rfl
    clear h1 h2
    have x0' := x0
    clear x0
    have hb3 := hbW
    go_wp2_with (first
      | (go_at_call 38; refine (HSp.out _).mono ?_; rintro e w4 ⟨rfl, hw4⟩; have x1 := keep_cell11 x0' hw4; clear x0'; have hb4 := hb3.trans hw4)
      | (refine wpList_build_pr rfl (.tmp 29) rfl (Pk.pathK, y.it.path) rfl ?_; obtain ⟨w5, hw5⟩ : ∃ V, V = w4.alloc (.cells #[.string (Nm.S Pk.pathK), .string (Nm.S y.it.path)] 42) := ⟨_, rfl⟩; have hb5 : Bw w4 w5 := (by rw [hw5]; exact bw_alloc11 (Bw.refl _) _); have HI5 : Hid (PrsAt w5 (some ⟨w4.heap.size, 0, none⟩) [(Pk.pathK, y.it.path)]) := (by rw [hw5]; exact prs_new1 _ _); rw [← hw5]; clear hw5; have hs5 : H ≤ w5.heap.size := (by rw [← hH.out]; exact (hb4.trans hb5).size))
      | (at_builtin; refine wpList_append_prs _ (by rfl) (.tmp 26) (.tmp 30) _ (by rfl) H 42 i0 _ 32 Tryz.underlying37 hi0 hz0 hz1 hz2 rfl _ _ _ (by rfl) (World.ownsRow_nil w5 _ _ _) (some ⟨w4.heap.size, 0, none⟩) 1 [(Pk.pathK, y.it.path)] 1 rfl (by rfl) HI5.out (fun e => by cases e) (by unfold maxLen; omega) (by omega) hs5 ?_; intro v6 w6 ho6 hg6; have hb6 : Bw w w6 := (by have := bw_grow hg6 (base := H) (by rw [← hH.out]; exact hb4.trans hb5) hs5 (World.ownsRow_nil w5 _ 42 2); rw [← hH.out] at this; exact this)))
    go_ret
    exact ⟨⟨v6, rfl, by rw [HP.out]; exact ho6⟩, hb6⟩
  · have q1 : ¬ (100 : Int) < (y.it.to.length : Int) := by omega
    have q2 : (er != 0) = false := by rw [h2]; rfl
    have q3 : (er == 0) = true := by rw [h2]; rfl
    have HP : Hid (Pk.prs y.it er = []) := by show _ = _; unfold Pk.prs; rw [if_neg h1, if_neg (fun h => h h2)]; rfl
    clear h1 h2
    have x0' := x0
    clear x0
    have hb3 := hbW
    go_wp2_with (first
      | (go_at_call 38; refine (HSp.out _).mono ?_; rintro e w4 ⟨rfl, hw4⟩; have x1 := keep_cell11 x0' hw4; clear x0'; have hb4 := hb3.trans hw4))
    go_ret
    exact ⟨⟨(.slice none 0 0), rfl, by rw [HP.out]; exact World.ownsRow_nil _ _ _ _⟩, hb4⟩
/-- what Pairs answers -/
def PairsEnds (base : Nat) (x : Tr.It) (er : Int) (e : Ending) (w' : World) : Prop :=
  (Tr.mayE x ≠ 0 → e = .returned (.tuple #[.slice none 0 0, .int .i64 (Tr.mayE x)])) ∧ (Tr.mayE x = 0 → ∃ v, e = .returned (.tuple #[v, .int .i64 0]) ∧ w'.ownsRow base 42 2 v (Pk.prs x er).length (Px.cellsPr (Pk.prs x er)))
set_option maxRecDepth 100000 in
theorem ppairs_any (y : Tr.Iv) (hf : Tr.Fit y.it) {a b : Pk.B} {er : Int} (hS : Nm.SplitSays y.it.path a b er) (w : World) : Calls Tryz.prog 11 #[.agg y.arr] w fun e w' => PairsEnds w.heap.size y.it er e w' ∧ Bw w w' := by
  obtain ⟨W, hW⟩ : ∃ W, W = w.alloc (.cells y.arr 26) := ⟨_, rfl⟩
  have hbW : Bw w W := by rw [hW]; exact bw_alloc11 (Bw.refl _) _
  have HX : Hid (BoxAt W w.heap.size y) := by rw [hW]; exact BoxAt.new _ _
  unfold PairsEnds
  obtain ⟨em, hem⟩ : ∃ r, Hid (Tr.mayE y.it = r) := ⟨_, rfl⟩
  have HMay : Hid (∀ u, Calls Tryz.prog 25 #[.agg y.arr] u fun e w' => e = .returned (.int .i64 em) ∧ Bw u w') := fun u => by rw [← hem.out]; exact tmay_any y hf u
  have HPo : Hid (∀ u, Calls Tryz.prog 26 #[.agg y.arr] u fun e w' => (∃ v, e = .returned v ∧ w'.ownsRow u.heap.size 42 2 v (Pk.prs y.it er).length (Px.cellsPr (Pk.prs y.it er))) ∧ Bw u w') := fun u => pairsof_any y hf hS u
  rw [hem.out]
  by_cases h0 : em = 0
  · subst h0
    go_enter Tryz.func11, Tryz.ntmps11
    go_upto_region 1 with fail
    rw [← hW]
    clear hW
    go_wp2_with (first
      | refine wpList_load_it (by rfl) (.tmp 1) rfl w.heap.size 0 rfl y HX.out.it ?_
      | (go_at_call 25; refine (HMay.out _).mono ?_; rintro e w1 ⟨rfl, hw1⟩; replace HX : Hid (BoxAt w1 w.heap.size y) := HX.out.keep hw1)
      | (go_at_call 26; refine (HPo.out _).mono ?_; rintro e w2 ⟨⟨v2, rfl, ho2⟩, hw2⟩))
    go_ret2
    exact ⟨⟨fun e => absurd rfl e, fun _ => ⟨v2, rfl, own_lower11 ho2 (hbW.trans hw1).size⟩⟩, (hbW.trans hw1).trans hw2⟩
  · have q1 := Tr.i_no h0
    have HE : Hid (em ≠ 0) := h0
    clear h0
    go_enter Tryz.func11, Tryz.ntmps11
    go_upto_region 1 with fail
    rw [← hW]
    clear hW
    go_wp2_with (first
      | refine wpList_load_it (by rfl) (.tmp 1) rfl w.heap.size 0 rfl y HX.out.it ?_
      | (go_at_call 25; refine (HMay.out _).mono ?_; rintro e w1 ⟨rfl, hw1⟩))
    go_ret2
    exact ⟨⟨fun _ => rfl, fun e => absurd e HE.out⟩, hbW.trans hw1⟩
end Go.Proofs.YtldkhbkgmiicbabGreatDoor

/- Layer 10: heads of an archive: the mathematics of texts with noughts behind them, of sums and seals. -/
namespace Go.Proofs.YtldkhbkgmiicbabGreatDoor
set_option linter.unusedVariables false
set_option linter.unusedSimpArgs false

namespace Hd
abbrev B := List UInt8
/-- a text, and noughts behind it -/
def pad (s : B) (w : Nat) : B := s ++ List.replicate (w - s.length) 0
/-- what stands ahead of the first nought -/
def first (b : B) : B := b.takeWhile (fun c => c != 0)
theorem pad_len {s : B} {w : Nat} (h : s.length ≤ w) : (pad s w).length = w := by
  unfold pad
  rw [List.length_append, List.length_replicate]; omega
/-- a number's form of W bytes -/
def nb (n W i : Nat) : Nat := if n < 8 ^ (W - 1) then (if i + 1 < W then 48 + n / 8 ^ (W - 2 - i) % 8 else 0) else (if i = 0 then 128 else n / 256 ^ (W - 1 - i) % 256)
def numB (n W : Nat) : B := (List.range W).map fun i => UInt8.ofNat (nb n W i)
theorem numB_len (n W : Nat) : (numB n W).length = W := by unfold numB; rw [List.length_map, List.length_range]
theorem nb_lt (n W i : Nat) : nb n W i < 256 := by
  unfold nb
  split
  · split <;> omega
  · split
    · decide
    · exact Nat.mod_lt _ (by decide)
theorem numB_at {n W i : Nat} (h : i < W) : (numB n W)[i]? = some (UInt8.ofNat (nb n W i)) := by
  unfold numB
  rw [List.getElem?_map, List.getElem?_range h]; rfl
/-- the sum of bytes; of a head's, eight blanks in the sum's place -/
def sumL (b : B) : Nat := (b.map UInt8.toNat).sum
def sumB (b : B) : Nat := sumL (b.take 148) + 256 + sumL (b.drop 156)
theorem sumL_bd : ∀ (b : B), sumL b ≤ 255 * b.length
  | [] => by simp [sumL]
  | c :: b => by
    have := sumL_bd b
    have hc := c.toNat_lt
    unfold sumL at this ⊢
    rw [List.map_cons, List.sum_cons, List.length_cons]; omega
theorem sumB_bd {b : B} (h : b.length ≤ 512) : sumB b < 8 ^ (7 - 1) := by
  have h1 := sumL_bd (b.take 148)
  have h2 := sumL_bd (b.drop 156)
  rw [List.length_take] at h1
  rw [List.length_drop] at h2
  unfold sumB
  show _ < 262144
  omega
/-- the sum in its place -/
def sealB (b : B) : B := b.take 148 ++ (numB (sumB b) 7 ++ (32 :: b.drop 156))
theorem seal_len {b : B} (h : 156 ≤ b.length) : (sealB b).length = b.length := by
  unfold sealB
  rw [List.length_append, List.length_append, List.length_cons, numB_len, List.length_take, List.length_drop]; omega
end Hd
end Go.Proofs.YtldkhbkgmiicbabGreatDoor

/- Layer 10: a head's bytes: their parts, what is read of them. -/
namespace Go.Proofs.YtldkhbkgmiicbabGreatDoor
set_option linter.unusedVariables false
set_option linter.unusedSimpArgs false

namespace Hd
/-- a head -/
structure Hdr where
  name : B
  mode : Int
  size : Int
  time : Int
  typ : UInt8
  link : B
  pre : B
def ustar : B := [117, 115, 116, 97, 114, 0, 48, 48]
def nul (s : B) : Bool := s.any (fun c => c == 0)
theorem nul_no {s : B} (h : nul s = false) : (0 : UInt8) ∉ s := fun hm => by
  have : nul s = true := List.any_eq_true.2 ⟨0, hm, by decide⟩
  rw [h] at this; exact absurd this (by decide)
def may (h : Hdr) : Nat :=
  if h.typ ≠ 48 ∧ h.typ ≠ 49 ∧ h.typ ≠ 50 ∧ h.typ ≠ 53 ∧ h.typ ≠ 120 then 102
  else if h.name.length > 100 ∨ h.link.length > 100 ∨ h.pre.length > 155 then 2
  else if nul h.name = true ∨ nul h.link = true ∨ nul h.pre = true then 82
  else if h.mode < 0 ∨ h.mode > 4095 ∨ h.size < 0 ∨ h.size > 8589934591 ∨ h.time < 0 ∨ h.time > 1099511627776 then 1
  else 0
structure Good (h : Hdr) : Prop where
  typ : h.typ = 48 ∨ h.typ = 49 ∨ h.typ = 50 ∨ h.typ = 53 ∨ h.typ = 120
  name : h.name.length ≤ 100
  link : h.link.length ≤ 100
  pre : h.pre.length ≤ 155
  nname : (0 : UInt8) ∉ h.name
  nlink : (0 : UInt8) ∉ h.link
  npre : (0 : UInt8) ∉ h.pre
  mode : 0 ≤ h.mode ∧ h.mode ≤ 4095
  size : 0 ≤ h.size ∧ h.size ≤ 8589934591
  time : 0 ≤ h.time ∧ h.time ≤ 1099511627776
theorem may_good {h : Hdr} (e : may h = 0) : Good h := by
  unfold may at e
  split at e
  · exact absurd e (by decide)
  split at e
  · exact absurd e (by decide)
  split at e
  · exact absurd e (by decide)
  split at e
  · exact absurd e (by decide)
  rename_i h1 h2 h3 h4
  have n1 : nul h.name = false := by cases hx : nul h.name with | false => rfl | true => exact absurd (.inl hx) h3
  have n2 : nul h.link = false := by cases hx : nul h.link with | false => rfl | true => exact absurd (.inr (.inl hx)) h3
  have n3 : nul h.pre = false := by cases hx : nul h.pre with | false => rfl | true => exact absurd (.inr (.inr hx)) h3
  refine ⟨?_, by omega, by omega, by omega, nul_no n1, nul_no n2, nul_no n3, by omega, by omega, by omega⟩
  by_cases a1 : h.typ = 48
  · exact .inl a1
  by_cases a2 : h.typ = 49
  · exact .inr (.inl a2)
  by_cases a3 : h.typ = 50
  · exact .inr (.inr (.inl a3))
  by_cases a4 : h.typ = 53
  · exact .inr (.inr (.inr (.inl a4)))
  by_cases a5 : h.typ = 120
  · exact .inr (.inr (.inr (.inr a5)))
  exact absurd ⟨a1, a2, a3, a4, a5⟩ h1
/-- what stands ahead of the sum, and behind it -/
def ahead (h : Hdr) : List B := [pad h.name 100, numB h.mode.toNat 8, numB 0 8, numB 0 8, numB h.size.toNat 12, numB h.time.toNat 12]
def after (h : Hdr) : List B := [[h.typ], pad h.link 100, pad ustar 8, pad [] 64, numB 0 8, numB 0 8, pad h.pre 155, pad [] 12]
/-- a head's bytes ahead of sealing, and sealed -/
def rawB (h : Hdr) : B := (ahead h).flatten ++ (pad [] 8 ++ (after h).flatten)
def layB (h : Hdr) : B := sealB (rawB h)
theorem ahead_len {h : Hdr} (g : Good h) : (ahead h).flatten.length = 148 := by
  unfold ahead
  simp only [List.flatten_cons, List.flatten_nil, List.length_append, List.length_nil, numB_len, pad_len g.name]
theorem after_len {h : Hdr} (g : Good h) : (after h).flatten.length = 356 := by
  unfold after
  simp only [List.flatten_cons, List.flatten_nil, List.length_append, List.length_nil, List.length_cons, numB_len, pad_len g.link, pad_len g.pre, pad_len (show ustar.length ≤ 8 by decide), pad_len (show ([] : B).length ≤ 64 by decide), pad_len (show ([] : B).length ≤ 12 by decide)]
theorem raw_len {h : Hdr} (g : Good h) : (rawB h).length = 512 := by
  unfold rawB
  rw [List.length_append, List.length_append, ahead_len g, after_len g, pad_len (by decide)]
theorem lay_len {h : Hdr} (g : Good h) : (layB h).length = 512 := by unfold layB; rw [seal_len (by rw [raw_len g]; omega), raw_len g]
end Hd
end Go.Proofs.YtldkhbkgmiicbabGreatDoor

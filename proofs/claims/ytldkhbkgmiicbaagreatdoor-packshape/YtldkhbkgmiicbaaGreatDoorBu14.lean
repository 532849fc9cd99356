/- Texts of mine, put together. -/
import Derived.Test.YtldkhbkgmiicbaaGreatDoorBu11
import Derived.Test.YtldkhbkgmiicbaaGreatDoorBu4
import Derived.Great.BuildSlice

/- The statements' helpers of layer 11: a list lent. -/
namespace Go.Proofs.YtldkhbkgmiicbaaGreatDoor
open Go.RowKit Go.Deep
set_option linter.unusedVariables false
set_option linter.unusedSimpArgs false

theorem wpList_build_it {ops : Array Oper} {rest : List Oper} {o : Oper} {a : Act} {w : World} {Q : Exit → Act → World → Prop} (hgd : o.guard = none) (x : Operand) (ho : o.op = .buildSlice 22 1 #[(0, x)])
    (y : Tr.Iv) (hx : a.eval x = .agg y.arr)
    (h : wpList Tryz.prog ops Q rest (a.put o.dst (.slice (some ⟨w.heap.size, 0, none⟩) 1 1)) (w.alloc (.cells y.arr 47))) : wpList Tryz.prog ops Q (o :: rest) a w := by
  obtain ⟨i0, hi0, hz0, hz1, hz2⟩ := info_parts info_item
  refine wpList_buildSlice hgd 22 47 1 _ ho y.arr i0 _ Tryz.underlying22 hi0 hz0 (by rw [hz1]; omega) (by rw [hz1]; omega) ?_ h
  rw [hz1]
  simp only [Array.toList_map, List.map_cons, List.map_nil, hx]
  kernel_rfl
theorem wpList_built11 {P : Program} {ops : Array Oper} {rest : List Oper} {o : Oper} {a : Act} {w : World} {Q : Exit → Act → World → Prop} (hg : o.guard = none) (t : TypeId) (parts : Array (Nat × Operand)) (ho : o.op = .build t parts)
    (cells : Array Value) (hb : P.built t (parts.map fun (i, x) => (i, a.eval x)).toList = some cells)
    (h : wpList P ops Q rest (a.put o.dst (.agg cells)) w) : wpList P ops Q (o :: rest) a w :=
  wpList_build hg t parts ho (by rw [hb]; rfl) (by rw [hb]; exact h)
/-- a Body of a list that was lent: a mark behind it -/
def MarkAt (w : World) (y : Tr.Iv) : Prop := ∃ gb, y.ad = some ⟨gb, 0, none⟩ ∧ Own w gb (y.it.body.length + 1) (Tr.rowF (y.it.body ++ [201])) ∧ y.it.body.length + 1 ≤ y.cp ∧ Tr.Fit y.it
theorem Tr.rowF_left {a b : Tr.B} {i : Nat} (h : i < a.length) : Tr.rowF (a ++ b) i = Tr.rowF a i := by
  unfold Tr.rowF
  rw [List.getD_eq_getElem?_getD, List.getD_eq_getElem?_getD, List.getElem?_append_left h]
theorem MarkAt.body {w : World} {y : Tr.Iv} (h : MarkAt w y) : BodyAt w y := by
  obtain ⟨gb, h1, h2, h3, h4⟩ := h
  refine ⟨?_, by omega, (fun e => by rw [h1] at e; cases e), h4⟩
  refine ⟨.inr ⟨gb, 0, h1, fun i hi => ?_⟩, Tr.rowF_bd _⟩
  have := (h2.cell (c := i) (by omega)).1
  rw [Nat.zero_add, this, Tr.rowF_left hi]
theorem MarkAt.mark {w : World} {y : Tr.Iv} (h : MarkAt w y) : ∃ gb, y.ad = some ⟨gb, 0, none⟩ ∧ w.cell? ⟨gb, y.it.body.length, none⟩ = some (.int .u8 201) ∧ y.it.body.length + 1 ≤ y.cp := by
  obtain ⟨gb, h1, h2, h3, h4⟩ := h
  refine ⟨gb, h1, ?_, h3⟩
  have := (h2.cell (c := y.it.body.length) (by omega)).1
  rw [this, Tr.rowF_at (c := 201) (by rw [List.getElem?_append_right (Nat.le_refl _), Nat.sub_self]; rfl)]; rfl
theorem MarkAt.keep {w w' : World} {y : Tr.Iv} (h : MarkAt w y) (g : Bw w w') : MarkAt w' y := by
  obtain ⟨gb, h1, h2, h3⟩ := h
  exact ⟨gb, h1, h2.keep g, h3⟩
/-- a list of items that grows leaves a row of bytes as it was -/
theorem MarkAt.grown {w w' : World} {y : Tr.Iv} {base n : Nat} {v : Value} {xs : List Value} (h : MarkAt w y) (g : w.grownBy w' v.ownBlock) (ho : w.ownsRow base 47 6 v n xs) : MarkAt w' y := by
  obtain ⟨gb, h1, ⟨cur, hc, h2⟩, h3⟩ := h
  refine ⟨gb, h1, ⟨cur, ?_, h2⟩, h3⟩
  rw [g.block gb (Array.getElem?_eq_some_iff.1 hc).1 ?_]
  · exact hc
  · intro e
    rcases ho.2 with ⟨rfl, _⟩ | ⟨g', cap, cur', rfl, hb, hg, _⟩
    · cases e
    · simp only [Value.ownBlock, Option.some.injEq] at e
      subst e
      rw [hc] at hg
      injection hg with hg
      injection hg with _ ht
      exact absurd ht (by decide)
theorem box_cell4 {w : World} {g : Nat} {y : Tr.Iv} (h : BoxAt w g y) : w.frozen? ⟨g, 4, none⟩ = false := by
  unfold BoxAt at h
  simp [World.frozen?, h]
theorem box_set4 {w : World} {g : Nat} {y : Tr.Iv} (h : BoxAt w g y) (A : Option Addr) (c : Nat) : BoxAt (w.setCell ⟨g, 4, none⟩ (.slice A y.it.body.length c)) g ⟨y.it, A, c⟩ := by
  have := heap_setCell_same w g 4 _ _ (.slice A y.it.body.length c) h
  unfold BoxAt
  rw [this]
  rfl
/-- a list that was lent -/
structure LentAt (w : World) (g c : Nat) (M : List Tr.Iv) : Prop where
  its : ItsAt w (some ⟨g, 0, none⟩) M
  marks : ∀ y ∈ M, MarkAt w y
  room : M.length + 1 ≤ c
  mark : w.cell? ⟨g, M.length * 6, none⟩ = some (.string ⟨#[109, 97, 114, 107]⟩)
theorem LentAt.keep {w w' : World} {g c : Nat} {M : List Tr.Iv} (h : LentAt w g c M) (k : Bw w w') : LentAt w' g c M :=
  ⟨h.its.keep k, fun y hy => (h.marks y hy).keep k, h.room, (k.cell (p := ⟨g, M.length * 6, none⟩) (block_lt_of_cell h.mark)).trans h.mark⟩
def Tr.markI : Tr.Iv := ⟨⟨[109, 97, 114, 107], 0, 0, 0, [], []⟩, none, 0⟩
theorem Tr.markI_fit : Tr.Fit Tr.markI.it := ⟨by decide, by decide, by decide, by decide, by decide, by decide⟩
theorem built_mark : Tryz.prog.built 47 [(0, .string ⟨#[109, 97, 114, 107]⟩)] = some Tr.markI.arr := by kernel_rfl
theorem mark_body (w : World) : BodyAt w Tr.markI := ⟨⟨.inl rfl, Tr.rowF_bd _⟩, Nat.le_refl _, fun _ => rfl, Tr.markI_fit⟩
theorem its_one {w : World} {g : Nat} {y : Tr.Iv} (h : BoxAt w g y) (hb : BodyAt w y) : ItsAt w (some ⟨g, 0, none⟩) [y] := by
  refine ⟨.inr ⟨g, 0, rfl, fun i z hz => ?_⟩, fun z hz => by rw [List.mem_singleton.1 hz]; exact hb⟩
  cases i with
  | zero => simp at hz; subst hz; exact h.it
  | succ i => simp at hz
theorem own_lower11 {W : World} {b b' : Nat} {e : TypeId} {s n : Nat} {v : Value} {xs : List Value} (h : W.ownsRow b e s v n xs) (hb : b' ≤ b) : W.ownsRow b' e s v n xs := by
  refine ⟨h.1, ?_⟩
  rcases h.2 with h0 | ⟨g, cap, cur, h1, h2, h3⟩
  · exact .inl h0
  · exact .inr ⟨g, cap, cur, h1, Nat.le_trans hb h2, h3⟩
theorem Tr.cells_row (l : Tr.B) (c : UInt8) : cellsU (Tr.rowF l) l.length ++ [.int .u8 (c.toNat : Int)] = cellsU (Tr.rowF (l ++ [c])) (l.length + 1) := by
  rw [cellsU_succ]
  congr 1
  · exact List.map_congr_left fun i hi => by rw [Tr.rowF_left (List.mem_range.1 hi)]
  · rw [Tr.rowF_at (c := c) (by rw [List.getElem?_append_right (Nat.le_refl _), Nat.sub_self]; rfl)]
end Go.Proofs.YtldkhbkgmiicbaaGreatDoor

/- Lists of pairs in the order of their keys: a list laid over another one (code-free). -/
namespace Go.Proofs.YtldkhbkgmiicbaaGreatDoor
open Go.RowKit Go.Deep
set_option linter.unusedVariables false
set_option linter.unusedSimpArgs false

namespace Px
abbrev B := List UInt8
abbrev Pr := B × B
/-- keys in their order, each once -/
def Srt (l : List Pr) : Prop := l.Pairwise (fun a b => Nm.less a.1 b.1 = true)
/-- a key's value -/
def find : List Pr → B → Option B
  | [], _ => none
  | a :: l, k => if a.1 = k then some a.2 else find l k
/-- a list laid over another one -/
def over : List Pr → List Pr → List Pr
  | [], m => m
  | a :: l, [] => a :: l
  | a :: l, b :: m => if Nm.less a.1 b.1 = true then a :: over l (b :: m) else if a.1 = b.1 then b :: over l m else b :: over (a :: l) m
termination_by l m => l.length + m.length
theorem over_nil_l (m : List Pr) : over [] m = m := by unfold over; rfl
theorem over_nil_r (l : List Pr) : over l [] = l := by cases l <;> (unfold over; rfl)
theorem over_cons (a b : Pr) (l m : List Pr) : over (a :: l) (b :: m) = if Nm.less a.1 b.1 = true then a :: over l (b :: m) else if a.1 = b.1 then b :: over l m else b :: over (a :: l) m := by rw [over]
theorem over_less {a b : Pr} (l m : List Pr) (h : Nm.less a.1 b.1 = true) : over (a :: l) (b :: m) = a :: over l (b :: m) := by rw [over_cons, if_pos h]
theorem over_same {a b : Pr} (l m : List Pr) (h : a.1 = b.1) : over (a :: l) (b :: m) = b :: over l m := by
  rw [over_cons, if_neg (by rw [h, Nm.less_irr]; simp), if_pos h]
theorem over_more {a b : Pr} (l m : List Pr) (h : Nm.less b.1 a.1 = true) : over (a :: l) (b :: m) = b :: over (a :: l) m := by
  rw [over_cons, if_neg (by rw [Nm.less_asym h]; simp), if_neg (fun e => by rw [e, Nm.less_irr] at h; cases h)]
theorem three (a b : B) : Nm.less a b = true ∨ a = b ∨ Nm.less b a = true := by
  cases h : Nm.less a b with
  | true => exact .inl rfl
  | false =>
    cases k : Nm.less b a with
    | true => exact .inr (.inr rfl)
    | false => exact .inr (.inl (Nm.less_tot _ _ h k))
theorem find_none {l : List Pr} {k : B} (h : ∀ x ∈ l, x.1 ≠ k) : find l k = none := by
  induction l with
  | nil => rfl
  | cons a l ih =>
    unfold find
    rw [if_neg (h a List.mem_cons_self)]
    exact ih fun x hx => h x (List.mem_cons_of_mem _ hx)
theorem find_mem {l : List Pr} {k v : B} (h : find l k = some v) : (k, v) ∈ l := by
  induction l with
  | nil => cases h
  | cons a l ih =>
    unfold find at h
    split at h
    · rename_i e
      injection h with h
      rw [← e, ← h]
      exact List.mem_cons_self
    · exact List.mem_cons_of_mem _ (ih h)
/-- ahead of a sorted list's first, nothing is found -/
theorem find_ahead {b : Pr} {m : List Pr} {k : B} (hs : Srt (b :: m)) (h : Nm.less k b.1 = true) : find (b :: m) k = none := by
  refine find_none fun x hx e => ?_
  rcases List.mem_cons.1 hx with rfl | hx
  · rw [e, Nm.less_irr] at h; cases h
  · have h2 := Nm.less_trans _ _ _ h ((List.pairwise_cons.1 hs).1 x hx)
    rw [e, Nm.less_irr] at h2; cases h2
theorem find_rest {a : Pr} {l : List Pr} (hs : Srt (a :: l)) : find l a.1 = none := by
  refine find_none fun x hx e => ?_
  have h2 := (List.pairwise_cons.1 hs).1 x hx
  rw [e, Nm.less_irr] at h2; cases h2
theorem Srt.tail {a : Pr} {l : List Pr} (h : Srt (a :: l)) : Srt l := (List.pairwise_cons.1 h).2
theorem mem_over : ∀ (n : Nat) (l m : List Pr), l.length + m.length ≤ n → ∀ x, x ∈ over l m → x ∈ l ∨ x ∈ m := by
  intro n
  induction n with
  | zero =>
    intro l m h x hx
    obtain rfl : l = [] := List.eq_nil_of_length_eq_zero (by omega)
    rw [over_nil_l] at hx
    exact .inr hx
  | succ n ih =>
    intro l m h x hx
    cases l with
    | nil => rw [over_nil_l] at hx; exact .inr hx
    | cons a l =>
      cases m with
      | nil => rw [over_nil_r] at hx; exact .inl hx
      | cons b m =>
        simp only [List.length_cons] at h
        rcases three a.1 b.1 with h1 | h1 | h1
        · rw [over_less l m h1] at hx
          rcases List.mem_cons.1 hx with rfl | hx
          · exact .inl List.mem_cons_self
          · exact (ih l (b :: m) (by simp; omega) x hx).imp (List.mem_cons_of_mem _) id
        · rw [over_same l m h1] at hx
          rcases List.mem_cons.1 hx with rfl | hx
          · exact .inr List.mem_cons_self
          · exact (ih l m (by omega) x hx).imp (List.mem_cons_of_mem _) (List.mem_cons_of_mem _)
        · rw [over_more l m h1] at hx
          rcases List.mem_cons.1 hx with rfl | hx
          · exact .inr List.mem_cons_self
          · exact (ih (a :: l) m (by simp; omega) x hx).imp id (List.mem_cons_of_mem _)
theorem find_over : ∀ (n : Nat) (l m : List Pr), l.length + m.length ≤ n → Srt l → Srt m → ∀ k, find (over l m) k = (find m k).or (find l k) := by
  intro n
  induction n with
  | zero =>
    intro l m h hl hm k
    obtain rfl : l = [] := List.eq_nil_of_length_eq_zero (by omega)
    rw [over_nil_l]
    show _ = (find m k).or none
    rw [Option.or_none]
  | succ n ih =>
    intro l m h hl hm k
    cases l with
    | nil => rw [over_nil_l]; show _ = (find m k).or none; rw [Option.or_none]
    | cons a l =>
      cases m with
      | nil => rw [over_nil_r]; rfl
      | cons b m =>
        simp only [List.length_cons] at h
        rcases three a.1 b.1 with h1 | h1 | h1
        · rw [over_less l m h1, find, ih l (b :: m) (by simp; omega) hl.tail hm k, find.eq_2 k a l]
          by_cases e : a.1 = k
          · rw [if_pos e, if_pos e, find_ahead hm (by rw [← e]; exact h1)]; rfl
          · rw [if_neg e, if_neg e]
        · rw [over_same l m h1, find, ih l m (by omega) hl.tail hm.tail k, find.eq_2 k a l, find.eq_2 k b m, h1]
          by_cases e : b.1 = k
          · rw [if_pos e, if_pos e]; rfl
          · rw [if_neg e, if_neg e, if_neg e]
        · rw [over_more l m h1, find, ih (a :: l) m (by simp; omega) hl hm.tail k, find.eq_2 k b m]
          by_cases e : b.1 = k
          · rw [if_pos e, if_pos e]; rfl
          · rw [if_neg e, if_neg e]
theorem srt_over : ∀ (n : Nat) (l m : List Pr), l.length + m.length ≤ n → Srt l → Srt m → Srt (over l m) := by
  intro n
  induction n with
  | zero =>
    intro l m h hl hm
    obtain rfl : l = [] := List.eq_nil_of_length_eq_zero (by omega)
    rw [over_nil_l]; exact hm
  | succ n ih =>
    intro l m h hl hm
    cases l with
    | nil => rw [over_nil_l]; exact hm
    | cons a l =>
      cases m with
      | nil => rw [over_nil_r]; exact hl
      | cons b m =>
        simp only [List.length_cons] at h
        have al := (List.pairwise_cons.1 hl).1
        have bm := (List.pairwise_cons.1 hm).1
        rcases three a.1 b.1 with h1 | h1 | h1
        · rw [over_less l m h1]
          refine List.pairwise_cons.2 ⟨fun x hx => ?_, ih l (b :: m) (by simp; omega) hl.tail hm⟩
          rcases mem_over _ _ _ (Nat.le_refl _) x hx with hx | hx
          · exact al x hx
          · rcases List.mem_cons.1 hx with rfl | hx
            · exact h1
            · exact Nm.less_trans _ _ _ h1 (bm x hx)
        · rw [over_same l m h1]
          refine List.pairwise_cons.2 ⟨fun x hx => ?_, ih l m (by omega) hl.tail hm.tail⟩
          rcases mem_over _ _ _ (Nat.le_refl _) x hx with hx | hx
          · rw [← h1]; exact al x hx
          · exact bm x hx
        · rw [over_more l m h1]
          refine List.pairwise_cons.2 ⟨fun x hx => ?_, ih (a :: l) m (by simp; omega) hl hm.tail⟩
          rcases mem_over _ _ _ (Nat.le_refl _) x hx with hx | hx
          · rcases List.mem_cons.1 hx with rfl | hx
            · exact h1
            · exact Nm.less_trans _ _ _ h1 (al x hx)
          · exact bm x hx
theorem overs_srt {l m : List Pr} (hl : Srt l) (hm : Srt m) : Srt (over l m) := srt_over _ l m (Nat.le_refl _) hl hm
theorem overs_find {l m : List Pr} (hl : Srt l) (hm : Srt m) (k : B) : find (over l m) k = (find m k).or (find l k) := find_over _ l m (Nat.le_refl _) hl hm k
theorem overs_mem {l m : List Pr} {x : Pr} (h : x ∈ over l m) : x ∈ l ∨ x ∈ m := mem_over _ l m (Nat.le_refl _) x h
/-- sorted lists that tell the same of every key are the same -/
theorem srt_ext : ∀ (x y : List Pr), Srt x → Srt y → (∀ k, find x k = find y k) → x = y
  | [], [], _, _, _ => rfl
  | [], b :: y, _, _, h => by have := h b.1; rw [find.eq_2, if_pos rfl] at this; cases this
  | a :: x, [], _, _, h => by have := h a.1; rw [find.eq_2, if_pos rfl] at this; cases this
  | a :: x, b :: y, hx, hy, h => by
    rcases three a.1 b.1 with h1 | h1 | h1
    · have := h a.1
      rw [find_ahead hy h1, find.eq_2, if_pos rfl] at this; cases this
    · have h2 := h a.1
      rw [find.eq_2, if_pos rfl, find.eq_2, if_pos h1.symm] at h2
      injection h2 with h2
      have hab : a = b := Prod.ext h1 h2
      subst hab
      rw [srt_ext x y hx.tail hy.tail fun k => ?_]
      by_cases e : a.1 = k
      · rw [← e, find_rest hx, find_rest hy]
      · have := h k
        rwa [find.eq_2, find.eq_2, if_neg e, if_neg e] at this
    · have := h b.1
      rw [find_ahead hx h1, find.eq_2, if_pos rfl] at this; cases this
theorem over_assoc {l m n : List Pr} (hl : Srt l) (hm : Srt m) (hn : Srt n) : over (over l m) n = over l (over m n) := by
  refine srt_ext _ _ (overs_srt (overs_srt hl hm) hn) (overs_srt hl (overs_srt hm hn)) fun k => ?_
  rw [overs_find (overs_srt hl hm) hn, overs_find hl hm, overs_find hl (overs_srt hm hn), overs_find hm hn, Option.or_assoc]
end Px
end Go.Proofs.YtldkhbkgmiicbaaGreatDoor

/- Decimal numbers, and numbers that say their own length (code-free). -/
namespace Go.Proofs.YtldkhbkgmiicbaaGreatDoor
open Go.RowKit Go.Deep
set_option linter.unusedVariables false
set_option linter.unusedSimpArgs false

namespace Px
/-- how many decimal digits -/
def dl (n : Nat) : Nat := if n < 10 then 1 else dl (n / 10) + 1
/-- the digits -/
def dec (n : Nat) : B := if n < 10 then [UInt8.ofNat (48 + n)] else dec (n / 10) ++ [UInt8.ofNat (48 + n % 10)]
theorem dl_one {n : Nat} (h : n < 10) : dl n = 1 := by rw [dl, if_pos h]
theorem dl_more {n : Nat} (h : ¬ n < 10) : dl n = dl (n / 10) + 1 := by rw [dl, if_neg h]
theorem dec_one {n : Nat} (h : n < 10) : dec n = [UInt8.ofNat (48 + n)] := by rw [dec, if_pos h]
theorem dec_more {n : Nat} (h : ¬ n < 10) : dec n = dec (n / 10) ++ [UInt8.ofNat (48 + n % 10)] := by rw [dec, if_neg h]
theorem dec_len (n : Nat) : (dec n).length = dl n := by
  induction n using Nat.strongRecOn with
  | ind n ih =>
    by_cases h : n < 10
    · rw [dec_one h, dl_one h]; rfl
    · rw [dec_more h, dl_more h, List.length_append, ih (n / 10) (by omega)]; rfl
theorem dl_pos (n : Nat) : 1 ≤ dl n := by
  by_cases h : n < 10
  · rw [dl_one h]; exact Nat.le_refl _
  · rw [dl_more h]; omega
theorem dl_mono : ∀ (b a : Nat), a ≤ b → dl a ≤ dl b := by
  intro b
  induction b using Nat.strongRecOn with
  | ind b ih =>
    intro a h
    by_cases hb : b < 10
    · rw [dl_one hb, dl_one (by omega)]; exact Nat.le_refl _
    · by_cases ha : a < 10
      · rw [dl_one ha]; exact dl_pos b
      · rw [dl_more ha, dl_more hb]
        have := ih (b / 10) (by omega) (a / 10) (by omega)
        omega
theorem dl_ten (r j : Nat) (h : j ≤ 9 * r + 9) : dl (r + j) ≤ dl r + 1 := by
  have h1 := dl_mono (10 * r + 9) (r + j) (by omega)
  by_cases hr : 10 * r + 9 < 10
  · rw [dl_one hr] at h1; omega
  · rw [dl_more hr] at h1
    have e : (10 * r + 9) / 10 = r := by omega
    rw [e] at h1; exact h1
theorem dl_le (n : Nat) : dl n ≤ n + 1 := by
  induction n using Nat.strongRecOn with
  | ind n ih =>
    by_cases h : n < 10
    · rw [dl_one h]; omega
    · rw [dl_more h]; have := ih (n / 10) (by omega); omega
/-- the least number that is r and as much as it has digits -/
def size (r : Nat) : Nat := if dl (r + dl r) = dl r then r + dl r else r + dl r + 1
theorem size_says (r : Nat) : size r = r + dl (size r) := by
  unfold size
  have h0 := dl_le r
  have h1 := dl_mono (r + dl r) r (by omega)
  have h2 := dl_ten r (dl r) (by omega)
  have h3 := dl_ten r (dl r + 1) (by omega)
  have h4 := dl_mono (r + (dl r + 1)) (r + dl r) (by omega)
  split
  · omega
  · rw [Nat.add_assoc]; omega
theorem size_least {r n : Nat} (h : n = r + dl n) : size r ≤ n := by
  have h1 := dl_mono n r (by omega)
  unfold size
  split
  · omega
  · rename_i h2
    have : n ≠ r + dl r := fun e => by
      have : dl n = dl r := by omega
      rw [e] at this; exact h2 this
    omega
theorem size_ge (r : Nat) : r + 1 ≤ size r := by have := size_says r; have := dl_pos (size r); omega
theorem size_mono {r q : Nat} (h : r < q) : size r < size q := by
  have h1 := size_says q
  have h2 := dl_mono q r (by omega)
  have h3 := dl_mono (q + dl q) (r + dl r) (by omega)
  have h4 := dl_ten r (dl r) (by have := dl_le r; omega)
  unfold size
  split <;> split
  · omega
  · omega
  · rename_i a b
    have : dl (r + dl r) ≥ dl r := dl_mono _ _ (by omega)
    by_cases e : dl q = dl r
    · rw [e] at b
      have := dl_mono (q + dl r) (r + dl r) (by omega)
      rw [e] at h3
      omega
    · omega
  · omega
theorem size_step (r : Nat) : size (r + 1) ≤ size r + 2 := by
  have h1 := size_says r
  have h2 := size_says (r + 1)
  have h5 := dl_ten r 1 (by omega)
  have h6 := dl_mono (r + 1) r (by omega)
  unfold size
  have h3 := dl_mono (r + 1 + dl (r + 1)) (r + dl r) (by omega)
  split <;> split
  · omega
  · omega
  · rename_i a b
    by_cases e : dl (r + 1) = dl r
    · omega
    · exfalso
      have h7 : dl (r + 1) = dl r + 1 := by omega
      have h8 : dl (r + dl r) ≥ dl (r + 1) := dl_mono _ _ (by have := dl_pos r; omega)
      omega
  · rename_i a b
    by_cases e : dl (r + 1) = dl r
    · omega
    · have h7 : dl (r + 1) = dl r + 1 := by omega
      omega
/-- a decimal digit -/
def isD (c : UInt8) : Bool := decide (48 ≤ c.toNat ∧ c.toNat ≤ 57)
/-- what digits come to -/
def val (s : B) : Nat := s.foldl (fun n c => 10 * n + (c.toNat - 48)) 0
theorem val_snoc (s : B) (c : UInt8) : val (s ++ [c]) = 10 * val s + (c.toNat - 48) := by unfold val; rw [List.foldl_append]; rfl
theorem dig_nat {k : Nat} (h : k < 10) : (UInt8.ofNat (48 + k)).toNat = 48 + k := by
  rw [UInt8.toNat_ofNat']; omega
theorem val_dec (n : Nat) : val (dec n) = n := by
  induction n using Nat.strongRecOn with
  | ind n ih =>
    by_cases h : n < 10
    · rw [dec_one h]; show 10 * 0 + ((UInt8.ofNat (48 + n)).toNat - 48) = n; rw [dig_nat h]; omega
    · rw [dec_more h, val_snoc, ih (n / 10) (by omega), dig_nat (by omega)]; omega
theorem dec_dig (n : Nat) : ∀ c ∈ dec n, isD c = true := by
  induction n using Nat.strongRecOn with
  | ind n ih =>
    intro c hc
    have hd : ∀ k, k < 10 → isD (UInt8.ofNat (48 + k)) = true := fun k hk => by unfold isD; rw [dig_nat hk]; exact decide_eq_true (by omega)
    by_cases h : n < 10
    · rw [dec_one h] at hc; obtain rfl := List.mem_singleton.1 hc; exact hd n h
    · rw [dec_more h] at hc
      rcases List.mem_append.1 hc with hc | hc
      · exact ih (n / 10) (by omega) c hc
      · obtain rfl := List.mem_singleton.1 hc; exact hd _ (by omega)
theorem dec_ne (n : Nat) : dec n ≠ [] := fun e => by have := dl_pos n; rw [← dec_len, e] at this; simp at this
theorem dec_head (n : Nat) (hn : 1 ≤ n) : (dec n).head? ≠ some 48 := by
  induction n using Nat.strongRecOn with
  | ind n ih =>
    by_cases h : n < 10
    · rw [dec_one h]
      intro e
      injection e with e
      have := congrArg UInt8.toNat e
      rw [dig_nat h] at this
      simp at this
      omega
    · rw [dec_more h, List.head?_append]
      have h1 := ih (n / 10) (by omega) (by omega)
      cases h2 : (dec (n / 10)).head? with
      | none => exact absurd (List.head?_eq_none_iff.1 h2) (dec_ne _)
      | some c => rw [h2] at h1; exact h1
theorem val_pos {c : UInt8} {s : B} (hc : isD c = true) (h48 : c ≠ 48) : ∀ n, s.length = n → 1 ≤ val (c :: s) := by
  intro n
  induction n generalizing s with
  | zero =>
    intro h
    obtain rfl := List.eq_nil_of_length_eq_zero h
    show 1 ≤ 10 * 0 + (c.toNat - 48)
    have := of_decide_eq_true hc
    have : c.toNat ≠ 48 := fun e => h48 (UInt8.toNat_inj.1 e)
    omega
  | succ n ih =>
    intro h
    have hs : s ≠ [] := fun e => by rw [e] at h; simp at h
    have e := List.dropLast_concat_getLast hs
    rw [← e, ← List.cons_append, val_snoc]
    have := ih (s := s.dropLast) (by rw [List.length_dropLast]; omega)
    omega
/-- digits without a nought ahead are those of what they come to -/
theorem dec_val : ∀ (n : Nat) (s : B), s.length = n + 1 → (∀ c ∈ s, isD c = true) → s.head? ≠ some 48 → dec (val s) = s := by
  intro n
  induction n with
  | zero =>
    intro s h hd h48
    obtain ⟨c, rfl⟩ := List.length_eq_one_iff.1 h
    have hc := of_decide_eq_true (hd c List.mem_cons_self)
    show dec (10 * 0 + (c.toNat - 48)) = _
    rw [dec_one (by omega)]
    congr 1
    apply UInt8.toNat_inj.1
    rw [dig_nat (by omega)]
    omega
  | succ n ih =>
    intro s h hd h48
    have hs : s ≠ [] := fun e => by rw [e] at h; simp at h
    have e := List.dropLast_concat_getLast hs
    obtain ⟨t, c, rfl⟩ : ∃ t c, s = t ++ [c] := ⟨_, _, e.symm⟩
    have ht : t.length = n + 1 := by rw [List.length_append] at h; simp at h; omega
    have hdt : ∀ x ∈ t, isD x = true := fun x hx => hd x (List.mem_append.2 (.inl hx))
    cases t with
    | nil => simp at ht
    | cons a t =>
      have ha : a ≠ 48 := fun e => h48 (by rw [e]; rfl)
      have hv := val_pos (s := t) (hdt a List.mem_cons_self) ha _ rfl
      have hc := of_decide_eq_true (hd c (List.mem_append.2 (.inr List.mem_cons_self)))
      have hi := ih (a :: t) ht hdt (by simpa using ha)
      rw [val_snoc, dec_more (by omega)]
      have e1 : (10 * val (a :: t) + (c.toNat - 48)) / 10 = val (a :: t) := by omega
      have e2 : (10 * val (a :: t) + (c.toNat - 48)) % 10 = c.toNat - 48 := by omega
      rw [e1, e2, hi]
      congr 2
      apply UInt8.toNat_inj.1
      rw [dig_nat (by omega)]
      omega
end Px
end Go.Proofs.YtldkhbkgmiicbaaGreatDoor

/- Texts of mine, put together. -/
import Derived.Test.YtldkhbkgmiicbaaGreatDoorBu41
import Derived.Test.YtldkhbkgmiicbaaGreatDoorBu45
import Derived.Test.YtldkhbkgmiicbaaGreatDoorBu46
import Derived.Test.YtldkhbkgmiicbaaGreatDoorBu4
import Derived.Test.YtldkhbkgmiicbaaGreatDoorBu11
import Derived.ChangeMaps5
import Derived.SliceStrings
import Derived.Deep.Strs
import Derived.Deep.CondSized
import Derived.Lib.SmallJoins
import Derived.Deep.Slices
import Derived.Deep.SlicePairs

/- Layer 12: a writer beside the document's own: what stands, and what each call makes of it. -/
namespace Go.Proofs.YtldkhbkgmiicbaaGreatDoor
open Go.RowKit Go.Deep
set_option linter.unusedVariables false
set_option linter.unusedSimpArgs false

theorem no_row12 (u : World) : RowAt u none 0 (fun _ => 0) := ⟨.inl rfl, fun _ => ⟨Int.le_refl _, by show (0 : Int) < 256; decide⟩⟩
/-- the program's writer and the document's -/
structure Wt (base g gx : Nat) (cl : Bool) (v I : Value) (A : Option Addr) (c : Nat) (L : List Tr.Iv) (w : World) : Prop where
  own : (cl = false ∧ ∃ AI cI, I = .slice AI (Tr.its L).length cI ∧ WOk w base g (Tr.its L) v AI cI) ∨ (cl = true ∧ v = .slice none 0 0 ∧ I = .slice none 0 0 ∧ WrAt I true w g v (Pk.flat (Tr.its L)))
  len : L.length ≤ 256
  room : (Pk.flat (Tr.its L)).length + 1024 ≤ 131072
  wr : Pk.wr (Tr.its L) = (Pk.flat (Tr.its L) ++ List.replicate 1024 0, 0, 0)
  doc : RWk w gx cl A c L
  dj : ∀ b, wIn g v I b → b ≠ gx ∧ ∀ o, A ≠ some ⟨b, o, none⟩
  el : ∀ y ∈ L, ∀ b o, y.ad = some ⟨b, o, none⟩ → 0 < y.it.body.length → b < base
  gb : base ≤ g
  xb : base ≤ gx
  ab : ∀ b o, A = some ⟨b, o, none⟩ → base ≤ b ∧ b ≠ gx ∧ b < w.heap.size
/-- the blocks that both stand on -/
def Wt2 (g gx : Nat) (v I : Value) (A : Option Addr) (b : Nat) : Prop := wIn g v I b ∨ b = gx ∨ ∃ o, A = some ⟨b, o, none⟩
theorem wIn_none {g b : Nat} (h : wIn g (.slice none 0 0) (.slice none 0 0) b) : b = g := by
  rcases h with h | h | h
  · exact h
  · cases h
  · cases h
namespace Wt
variable {base g gx : Nat} {cl : Bool} {v I : Value} {A : Option Addr} {c : Nat} {L : List Tr.Iv} {w w' : World}
theorem ins (h : Wt base g gx cl v I A c L w) {b : Nat} (hb : wIn g v I b) : base ≤ b ∧ b < w.heap.size := by
  rcases h.own with ⟨_, AI, cI, rfl, ho⟩ | ⟨_, rfl, rfl, ho⟩
  · rcases hb with rfl | hb | hb
    · exact ⟨h.gb, ho.at_.lt⟩
    · exact World.ownsRow.lt ho.roll.2 b hb
    · exact World.ownsRow.lt ho.its b hb
  · obtain rfl := wIn_none hb
    exact ⟨h.gb, ho.lt⟩
theorem bnd (h : Wt base g gx cl v I A c L w) {b : Nat} (hb : Wt2 g gx v I A b) : base ≤ b ∧ b < w.heap.size := by
  rcases hb with hb | rfl | ⟨o, hb⟩
  · exact h.ins hb
  · exact ⟨h.xb, h.doc.lt⟩
  · exact ⟨(h.ab b o hb).1, (h.ab b o hb).2.2⟩
theorem keepx {S : Nat → Prop} (h : Wt base g gx cl v I A c L w) (k : Bx S w w') (hS : ∀ b, S b → base ≤ b ∧ ¬ Wt2 g gx v I A b) : Wt base g gx cl v I A c L w' := by
  refine ⟨?_, h.len, h.room, h.wr, ⟨?_, ?_, h.doc.le, h.doc.nil⟩, h.dj, h.el, h.gb, h.xb, fun b o e => ⟨(h.ab b o e).1, (h.ab b o e).2.1, Nat.lt_of_lt_of_le (h.ab b o e).2.2 k.size⟩⟩
  · rcases h.own with ⟨h1, AI, cI, h2, ho⟩ | ⟨h1, h2, h3, ho⟩
    · subst h2
      exact .inl ⟨h1, AI, cI, rfl, ⟨ho.at_.keepx k (fun e => (hS g e).2 (.inl (.inl rfl))), ⟨ho.roll.1, own_bx ho.roll.2 k (fun x hx e => (hS x e).2 (.inl (.inr (.inl hx))))⟩, own_bx ho.its k (fun x hx e => (hS x e).2 (.inl (.inr (.inr hx)))), ho.ok, ho.len, ho.room, ho.fit⟩⟩
    · exact .inr ⟨h1, h2, h3, ho.keepx k (fun e => (hS g e).2 (.inl (.inl rfl)))⟩
  · exact (k.block gx h.doc.lt (fun e => (hS gx e).2 (.inr (.inl rfl)))).trans h.doc.at_
  · exact its_bx12 h.doc.its k (fun b o e hs => (hS b hs).2 (.inr (.inr ⟨o, e⟩))) (fun y hy b o e h0 hs => by have := h.el y hy b o e h0; have := (hS b hs).1; omega)
theorem keep (h : Wt base g gx cl v I A c L w) (k : Bw w w') : Wt base g gx cl v I A c L w' := h.keepx (S := fun _ => False) (Bx.of_bw k) (fun b e => e.elim)
end Wt
/-- what stands: no writer at all, or both; B: the blocks that they may stand on -/
def Stt (base : Nat) (pv px : Value) (B : Nat → Prop) (w : World) : Prop := (pv = .pointer none ∧ px = .pointer none) ∨ ∃ g gx cl v I A c L, pv = .pointer (some ⟨g, 0, none⟩) ∧ px = .pointer (some ⟨gx, 0, none⟩) ∧ Wt base g gx cl v I A c L w ∧ ∀ b, Wt2 g gx v I A b → B b
namespace Stt
variable {base : Nat} {pv px : Value} {B C : Nat → Prop} {w w' : World}
theorem any (h : Stt base pv px B w) : Stt base pv px (fun b => base ≤ b ∧ b < w.heap.size) w := by
  rcases h with h | ⟨g, gx, cl, v, I, A, c, L, h1, h2, h3, _⟩
  · exact .inl h
  · exact .inr ⟨g, gx, cl, v, I, A, c, L, h1, h2, h3, fun b hb => h3.bnd hb⟩
theorem keep (h : Stt base pv px B w) (k : Bw w w') : Stt base pv px B w' := by
  rcases h with h | ⟨g, gx, cl, v, I, A, c, L, h1, h2, h3, h4⟩
  · exact .inl h
  · exact .inr ⟨g, gx, cl, v, I, A, c, L, h1, h2, h3.keep k, h4⟩
theorem keepx {S : Nat → Prop} (h : Stt base pv px B w) (k : Bx S w w') (hS : ∀ b, S b → base ≤ b ∧ ¬ B b) : Stt base pv px B w' := by
  rcases h with h | ⟨g, gx, cl, v, I, A, c, L, h1, h2, h3, h4⟩
  · exact .inl h
  · exact .inr ⟨g, gx, cl, v, I, A, c, L, h1, h2, h3.keepx k (fun b hb => ⟨(hS b hb).1, fun e => (hS b hb).2 (h4 b e)⟩), h4⟩
end Stt
theorem bw_of_bx12 {S : Nat → Prop} {base : Nat} {W w w' : World} (hb : W.heap.size = base) (k : Bw W w) (x : Bx S w w') (hS : ∀ b, S b → base ≤ b) : Bw W w' := by
  subst hb
  exact Below.trans k (x.below k.size hS)
/-- an item is added to both -/
theorem adds_any {base : Nat} {pv px : Value} {B : Nat → Prop} {w u : World} (h : Stt base pv px B w) (k : Bw w u) (hbase : base ≤ w.heap.size) (hk : ∀ W, Below base u W → KTAt W) (y y' : Tr.Iv) (hy : BodyAt u y) (hyl : ∀ b o, y.ad = some ⟨b, o, none⟩ → 0 < y.it.body.length → b < base) (hy' : BodyAt u y') (hf : ∀ b o, y'.ad = some ⟨b, o, none⟩ → w.heap.size ≤ b ∧ b < u.heap.size) (he : y'.it = y.it) :
    ∃ E : Int, Calls Tryz.prog 16 #[pv, .agg y'.arr] u fun e u1 => e = .returned (.int .i64 E) ∧ Hid (Bx (fun b => base ≤ b ∧ b < w.heap.size) u u1) ∧
      Hid (∀ u1', Bw u1 u1' → Calls Tryz.prog 17 #[px, .agg y.arr] u1' fun e u2 => e = .returned (.int .i64 E) ∧ Hid (Bx (fun b => base ≤ b ∧ b < w.heap.size) u1' u2) ∧ Hid (Stt base pv px (fun b => (base ≤ b ∧ b < w.heap.size) ∨ u.heap.size ≤ b) u2)) := by
  rcases h.any with ⟨rfl, rfl⟩ | ⟨g, gx, cl, v, I, A, c, L, rfl, rfl, hw, hB⟩
  · refine ⟨8, (wadd_nil y' u).mono fun e u1 h1 => ⟨h1.1, Bx.of_bw h1.2, show ∀ _, _ from fun u1' k1 => (radd12_nil y u1').mono fun e u2 h2 => ⟨h2.1, Bx.of_bw h2.2, .inl ⟨rfl, rfl⟩⟩⟩⟩
  have hu := hw.keep k
  have hwu := k.size
  have hbl : ∀ {b}, Wt2 g gx v I A b → base ≤ b ∧ b < w.heap.size := fun hb => hw.bnd hb
  have hyk : ∀ {u1 : World} {S : Nat → Prop}, Bx S u u1 → (∀ b, S b → base ≤ b) → BodyAt u1 y := fun {u1 S} x hS => body_bx12 hy x (fun b o e h0 hs => by have := hyl b o e h0; have := hS b hs; omega)
  rcases hu.own with ⟨hcl, AI, cI, hI, ho⟩ | ⟨hcl, hv, hI, ho⟩
  · subst hcl hI
    refine ⟨(Pk.wr (Tr.its L ++ [y.it])).2.2, ?_⟩
    have hap : Apart u y'.ad y'.it.body.length g v := fun b o e h0 => ⟨(hf b o e).2, fun e1 => by have := (hbl (b := b) (.inl (.inl e1))).2; have := (hf b o e).1; omega, fun e1 => by have := (hbl (b := b) (.inl (.inr (.inl e1)))).2; have := (hf b o e).1; omega⟩
    have hA := wadd_any ho hu.wr y' hy' (Nat.le_trans hbase hwu) hu.gb hap hk
    rw [he] at hA
    refine hA.mono ?_
    rintro e u1 ⟨h1, v', AI', cI', h2, h3, h4⟩
    have x1 : Bx (fun b => base ≤ b ∧ b < w.heap.size) u u1 := h3.more (fun b hb => hbl (.inl hb))
    refine ⟨h1, x1, show ∀ _, _ from fun u1' k1 => ?_⟩
    have hd1 : RWk u1' gx false A c L := by
      refine ⟨(((Bx.of_bw k1 : Bx (fun _ => False) u1 u1').block gx (Nat.lt_of_lt_of_le hu.doc.lt x1.size) (fun e => e)).trans (h3.block gx hu.doc.lt (fun e => (hu.dj gx e).1 rfl))).trans hu.doc.at_, (its_bx12 hu.doc.its h3 (fun b o e hs => (hu.dj b hs).2 o e) (fun z hz b o e h0 hs => by have := hu.el z hz b o e h0; have := (hbl (b := b) (.inl hs)).1; omega)).keep k1, hu.doc.le, hu.doc.nil⟩
    refine (radd12_any hd1 y ((hyk x1 (fun b hb => hb.1)).keep k1) hu.len (fun z hz b o e h0 => by have := hu.el z hz b o e h0; have := hu.xb; omega) (fun b o e h0 => by have := hyl b o e h0; have := hu.xb; omega)).mono fun e u2 ⟨q1, A', c', q2, q3, q4⟩ => ?_
    have x2 : Bx (fun b => base ≤ b ∧ b < w.heap.size) u1' u2 := q3.more (fun b hb => by subst hb; exact hbl (.inr (.inl rfl)))
    refine ⟨q1, x2, show Stt _ _ _ _ _ from .inr ⟨g, gx, false, v', .slice AI' (Tr.its (if (Pk.wr (Tr.its L ++ [y.it])).2.2 = 0 then L ++ [y] else L)).length cI', A', c', if (Pk.wr (Tr.its L ++ [y.it])).2.2 = 0 then L ++ [y] else L, rfl, rfl, ?_, ?_⟩⟩
    · have hits : Tr.its (if (Pk.wr (Tr.its L ++ [y.it])).2.2 = 0 then L ++ [y] else L) = if (Pk.wr (Tr.its L ++ [y.it])).2.2 = 0 then Tr.its L ++ [y.it] else Tr.its L := by
        split
        · rw [Tr.its_append]; rfl
        · rfl
      have hnx : ∀ b, wIn g v' (.slice AI' (Tr.its (if (Pk.wr (Tr.its L ++ [y.it])).2.2 = 0 then L ++ [y] else L)).length cI') b → b ≠ gx := fun b hb e => by
        rcases h4 b (by rw [← hits]; exact hb) with h5 | h5
        · exact (hu.dj b h5).1 e
        · have := hu.doc.lt; omega
      have hw2 := (h2.keep k1).keepx q3 (fun b e hb => hnx b (by rw [hits]; exact hb) e)
      rw [← hits] at hw2
      refine ⟨.inl ⟨rfl, AI', cI', rfl, hw2⟩, ?_, hw2.room, ?_, q2, fun b hb => ⟨hnx b hb, fun o e => ?_⟩, ?_, hu.gb, hu.xb, fun b o e => ?_⟩
      · have := hw2.len; rw [Tr.its_len] at this; exact this
      · rw [hits]
        split
        · rename_i h0
          exact Pk.wr_zero h0
        · exact hu.wr
      · rcases q4 b o e with h5 | h5
        · rcases h4 b (by rw [← hits]; exact hb) with h6 | h6
          · exact (hu.dj b h6).2 o (h5 ▸ e)
          · have := (hu.ab b o (h5 ▸ e)).2.2; omega
        · have h9 := h2.ins (b := b) (by rw [hits] at hb; exact hb)
          have := k1.size
          omega
      · intro z hz b o e h0
        split at hz
        · rcases List.mem_append.1 hz with hz | hz
          · exact hu.el z hz b o e h0
          · rw [List.mem_singleton.1 hz] at e h0
            exact hyl b o e h0
        · exact hu.el z hz b o e h0
      · rcases q4 b o e with h5 | h5
        · have h6 := hu.ab b o (h5 ▸ e)
          exact ⟨h6.1, h6.2.1, by have := x1.size; have := k1.size; have := q3.size; omega⟩
        · have h6 := hu.doc.lt
          have := x1.size
          have := k1.size
          exact ⟨by omega, by omega, h5.2⟩
    · rintro b (hb | rfl | ⟨o, e⟩)
      · have hb' : wIn g v' (.slice AI' (if (Pk.wr (Tr.its L ++ [y.it])).2.2 = 0 then Tr.its L ++ [y.it] else Tr.its L).length cI') b := by
          rw [show (if (Pk.wr (Tr.its L ++ [y.it])).2.2 = 0 then Tr.its L ++ [y.it] else Tr.its L) = Tr.its (if (Pk.wr (Tr.its L ++ [y.it])).2.2 = 0 then L ++ [y] else L) by
            split
            · rw [Tr.its_append]; rfl
            · rfl]
          exact hb
        rcases h4 b hb' with h5 | h5
        · exact .inl (hbl (.inl h5))
        · exact .inr h5
      · exact .inl (hbl (.inr (.inl rfl)))
      · rcases q4 b o e with h5 | h5
        · exact .inl (hbl (.inr (.inr ⟨o, h5 ▸ e⟩)))
        · exact .inr (by have := x1.size; have := k1.size; omega)
  · subst hcl hv hI
    refine ⟨7, (wadd_shut ho y').mono fun e u1 h1 => ⟨h1.1, Bx.of_bw h1.2, show ∀ _, _ from fun u1' k1 => ?_⟩⟩
    have h2 := hu.keep (h1.2.trans k1)
    refine (radd12_shut h2.doc y).mono fun e u2 q => ⟨q.1, Bx.of_bw q.2, show Stt _ _ _ _ _ from .inr ⟨g, gx, true, _, _, A, c, L, rfl, rfl, h2.keep q.2, fun b hb => .inl (hbl hb)⟩⟩
/-- both tell their length -/
theorem lens_any {base : Nat} {pv px : Value} {B : Nat → Prop} {u : World} (h : Stt base pv px B u) :
    ∃ n : Int, Hid (Calls Tryz.prog 18 #[pv] u fun e u1 => e = .returned (.int .i64 n) ∧ u1 = u ∧
      Hid (∀ u1', Bw u1 u1' → Calls Tryz.prog 19 #[px] u1' fun e u2 => e = .returned (.int .i64 n) ∧ Bw u1' u2)) := by
  rcases h with ⟨rfl, rfl⟩ | ⟨g, gx, cl, v, I, A, c, L, rfl, rfl, hw, hB⟩
  · exact ⟨0, (wlen_nil u).mono fun e u1 h1 => ⟨h1.1, h1.2, show ∀ _, _ from fun u1' k1 => rlen12_nil u1'⟩⟩
  refine ⟨((Pk.flat (Tr.its L)).length : Int), ?_⟩
  have hL : Calls Tryz.prog 18 #[.pointer (some ⟨g, 0, none⟩)] u fun e w' => e = .returned (.int .i64 ((Pk.flat (Tr.its L)).length : Int)) ∧ w' = u := by
    rcases hw.own with ⟨_, AI, cI, _, ho⟩ | ⟨_, _, _, ho⟩
    · exact wlen_any ho.at_
    · exact wlen_any ho
  exact hL.mono fun e u1 h1 => ⟨h1.1, h1.2, show ∀ _, _ from fun u1' k1 => by
    obtain rfl := h1.2
    exact rlen12_any (hw.doc.keep k1) hw.len hw.wr hw.room⟩
/-- both close -/
theorem closes_any {base : Nat} {pv px : Value} {B : Nat → Prop} {u : World} (h : Stt base pv px B u) :
    ∃ (E : Int) (n : Nat) (f : Nat → Int), n ≤ 131072 ∧ Hid (Calls Tryz.prog 20 #[pv] u fun e u1 => ∃ A1 c1, e = .returned (.tuple #[.slice A1 n c1, .int .i64 E]) ∧ RowAt u1 A1 n f ∧ Hid (Bx (fun b => base ≤ b ∧ b < u.heap.size) u u1) ∧
      Hid (∀ u1', Bw u1 u1' → Calls Tryz.prog 21 #[px] u1' fun e u2 => ∃ A2 c2, e = .returned (.tuple #[.slice A2 n c2, .int .i64 E]) ∧ RowAt u2 A1 n f ∧ RowAt u2 A2 n f ∧ Hid (Bx (fun b => base ≤ b ∧ b < u.heap.size) u1' u2) ∧ Hid (Stt base pv px (fun b => base ≤ b ∧ b < u2.heap.size) u2))) := by
  rcases h.any with ⟨rfl, rfl⟩ | ⟨g, gx, cl, v, I, A, c, L, rfl, rfl, hw, hB⟩
  · refine ⟨8, 0, fun _ => 0, by decide, (wclose_nil u).mono fun e u1 h1 => ⟨none, 0, h1.1, no_row12 _, Bx.of_bw (h1.2 ▸ Bw.refl _), show ∀ _, _ from fun u1' k1 => (rclose12_nil u1').mono fun e u2 h2 => ⟨none, 0, h2.1, no_row12 _, no_row12 _, Bx.of_bw (h2.2 ▸ Bw.refl _), .inl ⟨rfl, rfl⟩⟩⟩⟩
  rcases hw.own with ⟨hcl, AI, cI, hI, ho⟩ | ⟨hcl, hv, hI, ho⟩
  · subst hcl hI
    refine ⟨0, (Pk.flat (Tr.its L)).length + 1024, Hd.rowF (Pk.flat (Tr.its L) ++ List.replicate 1024 0), hw.room, show Calls _ _ _ _ _ from (wclose_open ho.at_ ho.roll hw.room).mono ?_⟩
    rintro e u1 ⟨uu, h1, h2, h3, h4⟩
    have h2' : u1.ownsRow u.heap.size 5 1 uu (Pk.flat (Tr.its L) ++ List.replicate 1024 0).length (Lib.byteCells (Pk.flat (Tr.its L) ++ List.replicate 1024 0)) := by rw [List.length_append, List.length_replicate]; exact h2
    obtain ⟨A1, c1, rfl, hr1, -⟩ := own_rowat12 h2'
    rw [List.length_append, List.length_replicate] at h1 hr1
    have hfr : ∀ b o, A1 = some ⟨b, o, none⟩ → u.heap.size ≤ b ∧ b < u1.heap.size := fun b o e => World.ownsRow.lt h2 b (by rw [e]; rfl)
    have x1 : Bx (fun b => base ≤ b ∧ b < u.heap.size) u u1 := h4.more (fun b hb => by subst hb; exact hw.bnd (.inl (.inl rfl)))
    refine ⟨A1, c1, h1, hr1, x1, show ∀ _, _ from fun u1' k1 => ?_⟩
    have hd1 : RWk u1' gx false A c L := by
      refine ⟨(((Bx.of_bw k1 : Bx (fun _ => False) u1 u1').block gx (Nat.lt_of_lt_of_le hw.doc.lt h4.size) (fun e => e)).trans (h4.block gx hw.doc.lt (fun e => (hw.dj g (.inl rfl)).1 e.symm))).trans hw.doc.at_, (its_bx12 hw.doc.its h4 (fun b o e hs => by subst hs; exact (hw.dj b (.inl rfl)).2 o e) (fun z hz b o e h0 hs => by subst hs; have := hw.el z hz b o e h0; have := hw.gb; omega)).keep k1, hw.doc.le, hw.doc.nil⟩
    refine (rclose12_any hd1 hw.len hw.wr (fun b o e => (hw.ab b o e).2.1) (fun z hz b o e h0 => by have := hw.el z hz b o e h0; have := hw.xb; omega)).mono fun e u2 ⟨A2, c2, q1, q2, q3, q4⟩ => ?_
    have x2 : Bx (fun b => base ≤ b ∧ b < u.heap.size) u1' u2 := q4.more (fun b hb => by subst hb; exact hw.bnd (.inr (.inl rfl)))
    rw [List.length_append, List.length_replicate] at q1 q2
    have hg2 : WrAt (.slice none 0 0) true u2 g (.slice none 0 0) (Pk.flat (Tr.its L)) := (h3.keep k1).keepx q4 (fun e => (hw.dj g (.inl rfl)).1 e)
    have hw2 : Wt base g gx true (.slice none 0 0) (.slice none 0 0) A c L u2 := ⟨.inr ⟨rfl, rfl, rfl, hg2⟩, hw.len, hw.room, hw.wr, q3, fun b hb => by obtain rfl := wIn_none hb; exact hw.dj b (.inl rfl), hw.el, hw.gb, hw.xb, fun b o e => ⟨(hw.ab b o e).1, (hw.ab b o e).2.1, by have := (hw.ab b o e).2.2; have := h4.size; have := k1.size; have := q4.size; omega⟩⟩
    refine ⟨A2, c2, q1, (row_bx12 (hr1.keep k1) q4 (fun b o e h0 hs => by subst hs; have := hw.doc.lt; have := (hfr b o e).1; omega)), q2, x2, show Stt _ _ _ _ _ from .inr ⟨g, gx, true, _, _, A, c, L, rfl, rfl, hw2, fun b hb => hw2.bnd hb⟩⟩
  · subst hcl hv hI
    refine ⟨7, 0, fun _ => 0, by decide, (wclose_shut ho).mono fun e u1 h1 => ⟨none, 0, h1.1, no_row12 _, Bx.of_bw (h1.2 ▸ Bw.refl _), show ∀ _, _ from fun u1' k1 => ?_⟩⟩
    obtain rfl := h1.2
    have h2 := hw.keep k1
    exact (rclose12_shut h2.doc).mono fun e u2 q => ⟨none, 0, q.1, no_row12 _, no_row12 _, Bx.of_bw (q.2 ▸ Bw.refl _), show Stt _ _ _ _ _ from (by
      obtain rfl := q.2
      exact .inr ⟨g, gx, true, _, _, A, c, L, rfl, rfl, h2, fun b hb => h2.bnd hb⟩)⟩
end Go.Proofs.YtldkhbkgmiicbaaGreatDoor

/- The frame for texts and lists of texts that came in. -/
namespace Go.Proofs.YtldkhbkgmiicbaaGreatDoor
open Go.ChangeShapes Go.WideShapes Go.RowKit Go.Deep
set_option linter.unusedVariables false
set_option linter.unusedSimpArgs false

/-- a list of texts that came in, all of it small -/
structure InStrs (w : World) (A : Option Addr) (n cap : Nat) (T : Nat → ByteArray) : Prop where
  strs : StrsAt w A n T
  le : n ≤ cap
  room : cap ≤ 1048576
  nil : A = none → cap = 0
  each : ∀ i, (T i).size ≤ 1048576
  all : Nm.tot (partsL T n) ≤ 1048576
end Go.Proofs.YtldkhbkgmiicbaaGreatDoor

/- The frame for an item and a list of items that came in. -/
namespace Go.Proofs.YtldkhbkgmiicbaaGreatDoor
open Go.ChangeShapes Go.WideShapes Go.RowKit Go.Deep Go.Joins
set_option linter.unusedVariables false
set_option linter.unusedSimpArgs false

/-- a list of items that came in -/
structure InIts (w : World) (A : Option Addr) (n cap : Nat) (L : List Tr.Iv) : Prop where
  len : L.length = n
  its : ItsAt w A L
  le : n ≤ cap
  room : cap * 80 ≤ 140737488351232
  nil : A = none → n = 0 ∧ cap = 0
theorem weights_in11 {H : Type} (e : TypeId) : ∀ (ds : List (DataW H)) (y : DataW H), y ∈ ds → ∀ u ∈ y.weights Tryz.prog e, u ∈ DataW.weightsAll Tryz.prog e ds := by
  intro ds
  induction ds with
  | nil => intro y hy; cases hy
  | cons d0 ds ih =>
    intro y hy u hu
    simp only [DataW.weightsAll, List.mem_append]
    rcases List.mem_cons.1 hy with rfl | hy
    · exact Or.inl hu
    · exact Or.inr (ih y hy u hu)
theorem size_len11 (u : ByteArray) : u.data.toList.length = u.size := by rw [Array.length_toList]; rfl
/-- a row of bytes as a list -/
theorem row_list11 {w : World} {A : Option Addr} {n : Nat} {f : Nat → Int} (h : RowAt w A n f) : RowAt w A n (Tr.rowF (Tr.ofF f n)) := by
  refine ⟨?_, Tr.rowF_bd _⟩
  rcases h.1 with h0 | ⟨b, off, hA, hc⟩
  · exact .inl h0
  · exact .inr ⟨b, off, hA, fun i hi => by rw [hc i hi, Tr.rowF_ofF h.2 hi]⟩
set_option maxRecDepth 100000 in
/-- six values that are read as an item are one -/
theorem item_of {H : Type} {enc : TypeId × Value → H} {W : World} {m : Nat} {v0 v1 v2 v3 v4 v5 : Value} {y0 y1 y2 y3 y4 y5 : DataW H × List MemPlace}
    (g0 : DataW.trod enc Tryz.prog W 0 (fun _ => true) true m 9 [v0] = some y0) (g1 : DataW.trod enc Tryz.prog W 0 (fun _ => true) true m 45 [v1] = some y1) (g2 : DataW.trod enc Tryz.prog W 0 (fun _ => true) true m 3 [v2] = some y2) (g3 : DataW.trod enc Tryz.prog W 0 (fun _ => true) true m 3 [v3] = some y3)
    (g4 : DataW.trod enc Tryz.prog W 0 (fun _ => true) true m 24 [v4] = some y4) (g5 : DataW.trod enc Tryz.prog W 0 (fun _ => true) true m 9 [v5] = some y5)
    (hw : ∀ u, u ∈ (DataW.agg [y0.1, y1.1, y2.1, y3.1, y4.1, y5.1]).weights Tryz.prog 47 → u ≤ reachBytes) : ∃ y : Tr.Iv, [v0, v1, v2, v3, v4, v5] = y.vals ∧ BodyAt W y := by
  have hwe : ∀ u, u ∈ DataW.weightsEach Tryz.prog [9, 45, 3, 3, 24, 9] [y0.1, y1.1, y2.1, y3.1, y4.1, y5.1] → u ≤ reachBytes := fun u hu => hw u (by
    simp only [DataW.weights, Tryz.underlying47]
    exact hu)
  obtain ⟨s, e0, x0, -⟩ := DataW.trod_string Tryz.underlying9 g0
  obtain ⟨k, e1, x1, k1⟩ := DataW.trod_int Tryz.underlying45 g1
  obtain ⟨a, e2, x2, k2⟩ := DataW.trod_int Tryz.underlying3 g2
  obtain ⟨c, e3, x3, k3⟩ := DataW.trod_int Tryz.underlying3 g3
  obtain ⟨B, n, C, e4⟩ := slice_form Tryz.underlying24 g4
  obtain ⟨t, e5, x5, -⟩ := DataW.trod_string Tryz.underlying9 g5
  simp only [List.cons.injEq, and_true] at e0 e1 e2 e3 e4 e5
  subst e0 e1 e2 e3 e4 e5
  obtain ⟨F, hF⟩ := open_bytes (A := B) (n := n) (cap := C) (d := y4.1) (p := y4.2) ⟨m, g4⟩ (fun u hu => hwe u (DataW.weights_mem_each (j := 4) (t := 24) rfl rfl u hu))
  have b0 : s.size ≤ 140737488351232 := by
    have := hwe s.data.toList.length (DataW.weights_mem_each (j := 0) (t := 9) (d := y0.1) rfl rfl _ (by rw [x0]; simp [DataW.weights]))
    rwa [size_len11] at this
  have b5 : t.size ≤ 140737488351232 := by
    have := hwe t.data.toList.length (DataW.weights_mem_each (j := 5) (t := 9) (d := y5.1) rfl rfl _ (by rw [x5]; simp [DataW.weights]))
    rwa [size_len11] at this
  have kb := bounds_u8 k1
  have ab := bounds_i64 k2
  have cb := bounds_i64 k3
  have hcap := hF.room
  have hle := hF.le
  refine ⟨⟨⟨s.toList, k.toNat, a, c, Tr.ofF F n, t.toList⟩, B, C⟩, ?_, ?_⟩
  · unfold Tr.Iv.vals
    rw [Nm.S_toList, Nm.S_toList, Tr.ofF_len]
    dsimp only
    rw [show ((k.toNat : Nat) : Int) = k by omega]
  · refine ⟨?_, ?_, hF.nil, ⟨?_, ?_, ?_, ?_, ?_, ?_⟩⟩
    · show RowAt W B (Tr.ofF F n).length (Tr.rowF (Tr.ofF F n))
      rw [Tr.ofF_len]; exact row_list11 hF.row
    · show (Tr.ofF F n).length ≤ C
      rw [Tr.ofF_len]; exact hle
    · show k.toNat < 256; omega
    · exact ⟨ab.1, by have := ab.2; omega⟩
    · exact ⟨cb.1, by have := cb.2; omega⟩
    · show s.toList.length ≤ _; rw [Nm.size_toList]; exact b0
    · show (Tr.ofF F n).length ≤ _; rw [Tr.ofF_len]; omega
    · show t.toList.length ≤ _; rw [Nm.size_toList]; exact b5
end Go.Proofs.YtldkhbkgmiicbaaGreatDoor

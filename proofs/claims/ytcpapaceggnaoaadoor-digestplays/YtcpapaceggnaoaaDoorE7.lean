/- A hash in memory; contracts of the program's New, Len, Twin, and of bytes.Clone. -/
import Derived.Test.YtcpapaceggnaoaaDoorE6
namespace Go.Proofs.YtcpapaceggnaoaaDoor
open Go.RowKit Go.Deep

/-- a hash's cells: the state, what is left, the length -/
def hcells (s : Nat → Nat) (A : Option Addr) (n len : Nat) : Array Value := #[.int .u32 ((s 0 : Nat) : Int), .int .u32 ((s 1 : Nat) : Int), .int .u32 ((s 2 : Nat) : Int), .int .u32 ((s 3 : Nat) : Int), .int .u32 ((s 4 : Nat) : Int), .int .u32 ((s 5 : Nat) : Int), .int .u32 ((s 6 : Nat) : Int), .int .u32 ((s 7 : Nat) : Int), .slice A n n, .int .i64 (len : Int)]
theorem hcells_all (s : Nat → Nat) (A : Option Addr) (n len : Nat) : (hcells s A n len).all (·.oneCell') = true := by kernel_rfl
theorem infoH (s : Nat → Nat) (A : Option Addr) (n len : Nat) : (Tryd.prog.info? 47).map (·.size) = some (hcells s A n len).size := by kernel_rfl
def zerosH : Array Value := hcells (fun _ => 0) none 0 0
theorem zeroH (w : World) : (zeroValue 47).run Tryd.prog w = .ok (.agg zerosH) w := by kernel_rfl
theorem hcells_word (s : Nat → Nat) (A : Option Addr) (n len i : Nat) (h : i < 8) : (hcells s A n len)[i]? = some (.int .u32 ((s i : Nat) : Int)) := by
  have h' : i = 0 ∨ i = 1 ∨ i = 2 ∨ i = 3 ∨ i = 4 ∨ i = 5 ∨ i = 6 ∨ i = 7 := by omega
  rcases h' with rfl | rfl | rfl | rfl | rfl | rfl | rfl | rfl <;> rfl

/-- a hash in block g -/
def HAt (w : World) (g : Nat) (s : Nat → Nat) (A : Option Addr) (n len : Nat) : Prop := w.heap[g]? = some (.cells (hcells s A n len) 47 (0, 0))
theorem HAt.keep {w w' : World} {g : Nat} {s : Nat → Nat} {A : Option Addr} {n len : Nat} (h : HAt w g s A n len) (k : Bw w w') : HAt w' g s A n len :=
  (k.block g (Array.getElem?_eq_some_iff.1 h).1).trans h
theorem HAt.keepx {S : Nat → Prop} {w w' : World} {g : Nat} {s : Nat → Nat} {A : Option Addr} {n len : Nat} (h : HAt w g s A n len) (k : Bx S w w') (hg : ¬ S g) : HAt w' g s A n len :=
  (k.block g (Array.getElem?_eq_some_iff.1 h).1 hg).trans h
theorem HAt.lt {w : World} {g : Nat} {s : Nat → Nat} {A : Option Addr} {n len : Nat} (h : HAt w g s A n len) : g < w.heap.size := (Array.getElem?_eq_some_iff.1 h).1
theorem HAt.left {w : World} {g : Nat} {s : Nat → Nat} {A : Option Addr} {n len : Nat} (h : HAt w g s A n len) : w.cell? ⟨g, 8, none⟩ = some (.slice A n n) ∧ w.frozen? ⟨g, 8, none⟩ = false :=
  ⟨cell_of_row w g 8 _ _ _ h, frozen_of_row w g 8 _ _ h⟩
theorem HAt.length {w : World} {g : Nat} {s : Nat → Nat} {A : Option Addr} {n len : Nat} (h : HAt w g s A n len) : w.cell? ⟨g, 9, none⟩ = some (.int .i64 (len : Int)) ∧ w.frozen? ⟨g, 9, none⟩ = false :=
  ⟨cell_of_row w g 9 _ _ _ h, frozen_of_row w g 9 _ _ h⟩
theorem HAt.word {w : World} {g : Nat} {s : Nat → Nat} {A : Option Addr} {n len : Nat} (h : HAt w g s A n len) (i : Nat) (hi : i < 8) : w.cell? ⟨g, i, none⟩ = some (.int .u32 ((s i : Nat) : Int)) ∧ w.frozen? ⟨g, i, none⟩ = false :=
  ⟨(cell_of_row w g i _ _ _ h).trans (hcells_word s A n len i hi), frozen_of_row w g i _ _ h⟩
theorem HAt.range {w : World} {g : Nat} {s : Nat → Nat} {A : Option Addr} {n len : Nat} (h : HAt w g s A n len) : w.rangeAt g 0 (cells8 s).toList := fun j v hv => by
  have hj : j < 8 := (List.getElem?_eq_some_iff.1 hv).1
  rw [Nat.zero_add, (h.word j hj).1, ← cells8_at s j hj, ← Array.getElem?_toList]; exact hv
theorem HAt.there {w : World} {g : Nat} {s : Nat → Nat} {A : Option Addr} {n len : Nat} (h : HAt w g s A n len) : w.there g 0 8 := fun j hj => by
  rw [Nat.zero_add, (h.word j hj).1]; exact ⟨rfl, (h.word j hj).2⟩
theorem HAt.setLength {w : World} {g : Nat} {s : Nat → Nat} {A : Option Addr} {n len : Nat} (h : HAt w g s A n len) (l : Nat) {z : Int} (e : z = (l : Int)) : HAt (w.setCell ⟨g, 9, none⟩ (.int .i64 z)) g s A n l := by
  subst e; exact heap_setCell_same w g 9 _ _ _ h
theorem HAt.setLeft {w : World} {g : Nat} {s : Nat → Nat} {A : Option Addr} {n len : Nat} (h : HAt w g s A n len) (B : Option Addr) (m : Nat) : HAt (w.setCell ⟨g, 8, none⟩ (.slice B m m)) g s B m len :=
  heap_setCell_same w g 8 _ _ _ h
theorem HAt.setWord {w : World} {g : Nat} {s : Nat → Nat} {A : Option Addr} {n len : Nat} (h : HAt w g s A n len) (k z : Nat) (hk : k < 8) : HAt (w.setCell ⟨g, k, none⟩ (.int .u32 (z : Int))) g (fun i => if i = k then z else s i) A n len := by
  have h1 := heap_setCell_same w g k _ _ (.int .u32 (z : Int)) h
  have h2 : (hcells s A n len).setIfInBounds k (.int .u32 (z : Int)) = hcells (fun i => if i = k then z else s i) A n len := by
    have h' : k = 0 ∨ k = 1 ∨ k = 2 ∨ k = 3 ∨ k = 4 ∨ k = 5 ∨ k = 6 ∨ k = 7 := by omega
    rcases h' with rfl | rfl | rfl | rfl | rfl | rfl | rfl | rfl <;> rfl
  rw [h2] at h1
  exact h1
theorem HAt.congr {w : World} {g : Nat} {s r : Nat → Nat} {A : Option Addr} {n len : Nat} (h : HAt w g s A n len) (e : ∀ i, i < 8 → r i = s i) : HAt w g r A n len := by
  unfold HAt hcells
  rw [e 0 (by omega), e 1 (by omega), e 2 (by omega), e 3 (by omega), e 4 (by omega), e 5 (by omega), e 6 (by omega), e 7 (by omega)]
  exact h
theorem HAt.setState {w : World} {g : Nat} {s : Nat → Nat} {A : Option Addr} {n len : Nat} (h : HAt w g s A n len) (r : Nat → Nat) : HAt (w.setCells g 0 (cells8 r).toList) g r A n len := by
  have h8 := (((((((h.setWord 0 (r 0) (by omega)).setWord 1 (r 1) (by omega)).setWord 2 (r 2) (by omega)).setWord 3 (r 3) (by omega)).setWord 4 (r 4) (by omega)).setWord 5 (r 5) (by omega)).setWord 6 (r 6) (by omega)).setWord 7 (r 7) (by omega)
  have e : w.setCells g 0 (cells8 r).toList = (((((((w.setCell ⟨g, 0, none⟩ (.int .u32 ((r 0 : Nat) : Int))).setCell ⟨g, 1, none⟩ (.int .u32 ((r 1 : Nat) : Int))).setCell ⟨g, 2, none⟩ (.int .u32 ((r 2 : Nat) : Int))).setCell ⟨g, 3, none⟩ (.int .u32 ((r 3 : Nat) : Int))).setCell ⟨g, 4, none⟩ (.int .u32 ((r 4 : Nat) : Int))).setCell ⟨g, 5, none⟩ (.int .u32 ((r 5 : Nat) : Int))).setCell ⟨g, 6, none⟩ (.int .u32 ((r 6 : Nat) : Int))).setCell ⟨g, 7, none⟩ (.int .u32 ((r 7 : Nat) : Int)) := by
    unfold cells8; simp only [World.setCells]
  rw [e]
  refine h8.congr (fun i hi => ?_)
  have h' : i = 0 ∨ i = 1 ∨ i = 2 ∨ i = 3 ∨ i = 4 ∨ i = 5 ∨ i = 6 ∨ i = 7 := by omega
  rcases h' with rfl | rfl | rfl | rfl | rfl | rfl | rfl | rfl <;> rfl
theorem setCells_bx (g : Nat) : ∀ (vs : List Value) (o : Nat) (w : World), Bx (· = g) w (w.setCells g o vs)
  | [], _, w => Bx.refl _ w
  | _ :: r, o, w => ((Bx.refl (· = g) w).put rfl).trans (setCells_bx g r (o + 1) _)
/-- bytes do not lie in a hash -/
theorem HAt.apart {w : World} {g : Nat} {s : Nat → Nat} {A : Option Addr} {n len : Nat} (h : HAt w g s A n len) {B : Option Addr} {m : Nat} {f : Nat → Int} (hr : RowAt w B m f) : ∀ b o, B = some ⟨b, o, none⟩ → 0 < m → ¬ b = g := by
  intro b o e hm hb
  obtain ⟨b', o', e', hc⟩ := hr.at (k := 0) hm
  rw [e] at e'
  cases e'
  subst hb
  have h1 := hc 0 hm
  rw [Nat.add_zero, cell_of_row w b o _ _ _ h] at h1
  have ho : o < 10 := (Array.getElem?_eq_some_iff.1 h1).1
  have h' : o = 0 ∨ o = 1 ∨ o = 2 ∨ o = 3 ∨ o = 4 ∨ o = 5 ∨ o = 6 ∨ o = 7 ∨ o = 8 ∨ o = 9 := by omega
  rcases h' with rfl | rfl | rfl | rfl | rfl | rfl | rfl | rfl | rfl | rfl <;> cases h1

/-- a hash of the len bytes F, what is left lying at A -/
structure HashAt (w : World) (g : Nat) (F : Nat → Int) (len : Nat) (A : Option Addr) : Prop where
  at_ : HAt w g (Sha.after (nbD F) (len / 64)) A (len % 64) len
  row : RowAt w A (len % 64) (fun c => F (64 * (len / 64) + c))
  bd : ∀ i, 0 ≤ F i ∧ F i < 256
theorem HashAt.keep {w w' : World} {g len : Nat} {F : Nat → Int} {A : Option Addr} (h : HashAt w g F len A) (k : Bw w w') : HashAt w' g F len A := ⟨h.at_.keep k, h.row.keep k, h.bd⟩
theorem HashAt.keepx {S : Nat → Prop} {w w' : World} {g len : Nat} {F : Nat → Int} {A : Option Addr} (h : HashAt w g F len A) (k : Bx S w w') (hg : ¬ S g) (hA : ∀ b o, A = some ⟨b, o, none⟩ → 0 < len % 64 → ¬ S b) : HashAt w' g F len A := ⟨h.at_.keepx k hg, h.row.keepx k hA, h.bd⟩

theorem new_any (w : World) :
    Calls Tryd.prog 14 #[] w fun e w' => e = .returned (.pointer (some ⟨w.heap.size, 0, none⟩)) ∧ w' = w.alloc (.cells (hcells Sha.iv none 0 0) 47) := by
  go_enter Tryd.func14, Tryd.ntmps14
  go_wp2_with (first
    | refine wpList_built rfl 43 _ rfl (cells8 Sha.iv) (by kernel_rfl) ?_
    | refine wpList_built rfl 47 _ rfl (hcells Sha.iv none 0 0) (by kernel_rfl) ?_)
  go_ret
  exact ⟨rfl, rfl⟩
theorem new_hash (w : World) (F : Nat → Int) (hF : ∀ i, 0 ≤ F i ∧ F i < 256) : HashAt (w.alloc (.cells (hcells Sha.iv none 0 0) 47)) w.heap.size F 0 none :=
  ⟨heap_alloc_new _ _, ⟨Or.inl rfl, fun _ => hF _⟩, hF⟩

theorem len_any (g : Nat) (s : Nat → Nat) (A : Option Addr) (n len : Nat) (w : World) (h : HAt w g s A n len) :
    Calls Tryd.prog 17 #[.pointer (some ⟨g, 0, none⟩)] w fun e w' => e = .returned (.int .i64 (len : Int)) ∧ w' = w := by
  have c := h.length.1
  go_enter Tryd.func17, Tryd.ntmps17
  go_wp2
  go_ret
  exact ⟨rfl, rfl⟩
theorem len_nil (w : World) :
    Calls Tryd.prog 17 #[.pointer none] w fun e w' => e = .returned (.int .i64 0) ∧ w' = w := by
  go_enter Tryd.func17, Tryd.ntmps17
  go_wp2
  go_ret
  exact ⟨rfl, rfl⟩

theorem twin_any (g : Nat) (s : Nat → Nat) (A : Option Addr) (n len : Nat) (w : World) (h : HAt w g s A n len) :
    Calls Tryd.prog 18 #[.pointer (some ⟨g, 0, none⟩)] w fun e w' => e = .returned (.pointer (some ⟨w.heap.size, 0, none⟩)) ∧ w' = w.alloc (.cells (hcells s A n len) 47) := by
  have hz := zeroH
  unfold HAt at h
  go_enter Tryd.func18, Tryd.ntmps18
  go_wp2_with (first
    | refine wpList_load_row rfl 47 _ rfl g rfl 47 (hcells s A n len) (0, 0) _ h Tryd.underlying47 rfl (infoH _ _ _ _) ?_
    | (refine wpList_store_row rfl 47 _ _ rfl _ (hcells s A n len) rfl rfl 47 zerosH (heap_alloc_new _ _) (infoH _ _ _ _) rfl (hcells_all _ _ _ _) ?_; rw [setRow_alloc_new]))
  go_ret
  exact ⟨rfl, rfl⟩
theorem twin_nil (w : World) :
    Calls Tryd.prog 18 #[.pointer none] w fun e w' => e = .returned (.pointer none) ∧ w' = w := by
  go_enter Tryd.func18, Tryd.ntmps18
  go_wp2
  go_ret
  exact ⟨rfl, rfl⟩

theorem equalIn_nil (w : World) (d : Nat) (A : Option Addr) (n c : Nat) : (Op.equalIn (d + 1) 22 (.slice A n c) (.slice none 0 0)).run Tryd.prog w = .ok A.isNone w := by
  cases A <;> simp [Op.equalIn, run_underlying Tryd.underlying22]
theorem eql_nil (w : World) (A : Option Addr) (n c : Nat) : (binOp .eql 22 (.slice A n c) (.slice none 0 0)).run Tryd.prog w = .ok (.bool A.isNone) w := by
  have h : (Op.equal 22 (.slice A n c) (.slice none 0 0)).run Tryd.prog w = .ok A.isNone w := equalIn_nil w 9999 A n c
  simp only [binOp]
  simp [h]
theorem clone_any (A : Option Addr) (L ca : Nat) (f : Nat → Int) (hL : L ≤ 140737488355328) (w : World) (hrow : RowAt w A L f) (hnil : A = none → ca = 0) :
    Calls Tryd.prog 21 #[.slice A L ca] w fun e w' => ∃ A' cap, e = .returned (.slice A' L cap) ∧ L ≤ cap ∧ cap ≤ maxLen ∧ RowAt w' A' L f ∧ (∀ a, A' = some a → w.heap.size ≤ a.block) ∧ Bw w w' := by
  obtain ⟨i0, hi0, hz0, hz1, hz2⟩ := info_parts info_u8
  have hmx : 0 + L ≤ maxLen := by unfold maxLen; omega
  have hnl := eql_nil
  cases A with
  | none =>
    have hL0 : L = 0 := by
      rcases hrow.1 with h0 | ⟨b, off, e', _⟩
      · exact h0
      · cases e'
    subst hL0
    obtain rfl := hnil rfl
    go_enter Tryd.func21, Tryd.ntmps21
    go_wp2
    go_ret
    exact ⟨none, 0, rfl, Nat.zero_le _, hrow, fun a h => (by simp at h), Bw.refl _⟩
  | some a =>
    go_enter Tryd.func21, Tryd.ntmps21
    go_wp2_with (at_builtin; refine wpList_append_rowat _ (by rfl) (.tmp 5) (.tmp 6) _ (by rfl) w.heap.size 5 i0 _ 1 Tryd.underlying22 hi0 hz0 hz1 hz2 rfl _ _ _ (by rfl) (own_empty w w.heap.size _ (Nat.le_refl _)) (some a) L ca f (by rfl) (hrow.keep ((Below.refl _ _).alloc (Nat.le_refl _) _)) hnil hmx (by omega) (by simp) ?_; intro v2 w2 hown2 hgrow2; simp only [Nat.zero_add, List.nil_append] at hown2; have bw2 := bw_fresh hgrow2)
    obtain ⟨A1, c1, e1, hc1, hc2, hr1, hA1⟩ := row_of_own hrow.2 hown2
    subst e1
    go_ret
    exact ⟨A1, c1, rfl, hc1, hc2, hr1, fun a h => (hA1 a h).1, bw2⟩
end Go.Proofs.YtcpapaceggnaoaaDoor

/- Layer 14: a disk in memory; the program's small calls. -/
import Derived.Test.YtppknadflmjefaaC1
namespace Go.Proofs.Ytppknadflmjefaa
open Go.RowKit Go.Deep
set_option linter.unusedVariables false
set_option linter.unusedSimpArgs false

/-- bytes that fill a block of type t -/
def BlkT (w : World) (g t q : Nat) (f : Nat → Int) : Prop := ∃ cur, w.heap[g]? = some (.cells cur t (0, 0)) ∧ cur.size = q ∧ ∀ c, c < q → cur[c]? = some (.int .u8 (f c))
theorem BlkT.lt {w : World} {g t q : Nat} {f : Nat → Int} (h : BlkT w g t q f) : g < w.heap.size := by obtain ⟨cur, h1, _⟩ := h; exact (Array.getElem?_eq_some_iff.1 h1).1
theorem BlkT.kept {w w' : World} {g t q : Nat} {f : Nat → Int} (h : BlkT w g t q f) (e : w'.heap[g]? = w.heap[g]?) : BlkT w' g t q f := by
  obtain ⟨cur, h1, h2⟩ := h
  exact ⟨cur, e.trans h1, h2⟩
theorem BlkT.keep {w w' : World} {g t q : Nat} {f : Nat → Int} (h : BlkT w g t q f) (k : Bw w w') : BlkT w' g t q f := h.kept (k.block g h.lt)
theorem BlkT.keepx {S : Nat → Prop} {w w' : World} {g t q : Nat} {f : Nat → Int} (h : BlkT w g t q f) (k : Bx S w w') (hS : ¬ S g) : BlkT w' g t q f := h.kept (k.block g h.lt hS)
theorem BlkT.cell {w : World} {g t q : Nat} {f : Nat → Int} (h : BlkT w g t q f) {c : Nat} (hc : c < q) : w.cell? ⟨g, c, none⟩ = some (.int .u8 (f c)) ∧ w.frozen? ⟨g, c, none⟩ = false := by
  obtain ⟨cur, h1, h2, h3⟩ := h
  exact ⟨(cell_of_row w g c cur _ _ h1).trans (h3 c hc), frozen_of_row w g c cur _ h1⟩
theorem BlkT.set {w : World} {g t q : Nat} {f f' : Nat → Int} (h : BlkT w g t q f) {j : Nat} {x : Int} (hj : j < q) (e : f' j = x) (hf : ∀ c, c < q → c ≠ j → f' c = f c) : BlkT (w.setCell ⟨g, j, none⟩ (.int .u8 x)) g t q f' := by
  obtain ⟨cur, h1, h2, h3⟩ := h
  refine ⟨_, heap_setCell_same w g j cur _ _ h1, by simpa using h2, fun c hc => ?_⟩
  by_cases hcj : c = j
  · subst hcj; rw [Array.getElem?_setIfInBounds_self_of_lt (by omega), e]
  · rw [Array.getElem?_setIfInBounds_ne (Ne.symm hcj), h3 c hc, hf c hc hcj]
theorem BlkT.congr {w : World} {g t q : Nat} {f f' : Nat → Int} (h : BlkT w g t q f) (hf : ∀ c, c < q → f' c = f c) : BlkT w g t q f' := by
  obtain ⟨cur, h1, h2, h3⟩ := h
  exact ⟨cur, h1, h2, fun c hc => by rw [h3 c hc, hf c hc]⟩
theorem BlkT.row {w : World} {g t q : Nat} {f : Nat → Int} (h : BlkT w g t q f) (hf : ∀ i, 0 ≤ f i ∧ f i < 256) {o n : Nat} (hn : o + n ≤ q) : RowAt w (some ⟨g, o, none⟩) n (fun i => f (o + i)) :=
  ⟨Or.inr ⟨g, o, rfl, fun i hi => (h.cell (by omega)).1⟩, fun i => hf _⟩
/-- a copy into it -/
theorem copyT {w : World} {g t N : Nat} {F : Nat → Int} (o m cap Ls cb L : Nat) (ty : TypeId) {f : Nat → Int} {B : Option Addr} (hb : BlkT w g t N F) (ho : o + L ≤ N) (hL : L = min Ls m) (hB : RowAt w B L f) :
    ∃ w', (Builtin.copy_ #[37, 37] ty #[.slice (some ⟨g, o, none⟩) m cap, .slice B Ls cb]).run Try.prog w = .ok (goInt L) w' ∧ BlkT w' g t N (cpyF F o L f) ∧ Bx (· = g) w w' := by
  by_cases h0 : L = 0
  · have h0' := h0
    subst h0
    refine ⟨w, run_copy_none w 37 37 ty 5 _ _ m cap Ls cb Try.underlying37 u8_one hL.symm, hb.congr (fun k hk => by unfold cpyF; rw [if_neg (by omega)]), Bx.refl _ _⟩
  · obtain ⟨b, off, rfl, hc⟩ := hB.at (k := 0) (by omega)
    obtain ⟨cur, h1, h2, h3⟩ := hb
    have hl : (cellsU f L).length = L := by simp [cellsU]
    have hrun := run_copy_row Try.prog w 37 37 ty 5 g o m cap ⟨b, off, none⟩ Ls cb cur t (cellsU f L) Try.underlying37 u8_one h1 (by rw [hl]; exact hL) (rowat_news hB) (by rw [hl]; omega) (fun v hv => by simp only [cellsU, List.mem_map] at hv; obtain ⟨i, _, rfl⟩ := hv; rfl)
    rw [hl] at hrun
    refine ⟨_, hrun, ⟨_, setRow_heap w g cur _ _ _ h1, ?_, fun c hc' => ?_⟩, ⟨rfl, rfl, rfl, by simp [World.setRow], fun k _ hk => setRow_other w g k _ (by omega)⟩⟩
    · simp [hl]; omega
    · rw [List.getElem?_toArray]
      unfold cpyF
      by_cases e : o ≤ c ∧ c < o + L
      · rw [if_pos e, List.append_assoc, List.getElem?_append_right (by simp; omega), List.getElem?_append_left (by simp [hl]; omega)]
        simp only [List.length_take, Array.length_toList, cellsU, List.getElem?_map]
        rw [Nat.min_eq_left (by omega), List.getElem?_range (by omega)]; rfl
      · rw [if_neg e]
        by_cases e2 : c < o
        · rw [List.append_assoc, List.getElem?_append_left (by simp; omega), List.getElem?_take, if_pos e2, Array.getElem?_toList, h3 c hc']
        · rw [List.getElem?_append_right (by simp [hl]; omega), List.getElem?_drop]
          simp only [List.length_append, List.length_take, Array.length_toList, hl]
          rw [Nat.min_eq_left (by omega), show o + L + (c - (o + L)) = c by omega, Array.getElem?_toList, h3 c hc']

/-- a disk: what lasts, where something waits, what waits, the fuse, whether the power is gone -/
structure Dsk where
  n : Nat
  last : Nat → Int
  is : Nat → Bool
  wait : Nat → Int
  fuse : Int
  dead : Bool
structure Dsk.Ok (S : Dsk) : Prop where
  n0 : 1 ≤ S.n
  n1 : S.n ≤ 65536
  lb : ∀ i, 0 ≤ S.last i ∧ S.last i < 256
  wb : ∀ i, 0 ≤ S.wait i ∧ S.wait i < 256
  f0 : -1 ≤ S.fuse
  f1 : S.fuse < 9223372036854775808
def dcells (lb gm : Nat) (S : Dsk) : Array Value := #[.slice (some ⟨lb, 0, none⟩) S.n S.n, .map (some gm), .int .i64 S.fuse, .bool S.dead]
/-- a disk in block g, its sectors in block lb, its map in block gm -/
structure DiskAt (w : World) (g lb gm : Nat) (S : Dsk) : Prop where
  cells : w.heap[g]? = some (.cells (dcells lb gm S) 63 (0, 0))
  rows : BlkT w lb 77 (64 * S.n) S.last
  map : MapAt w gm S.n S.is S.wait
  ok : S.Ok
/-- one of its blocks -/
def dIn (g lb gm : Nat) (b : Nat) : Prop := b = g ∨ b = lb ∨ b = gm
namespace DiskAt
variable {w w' : World} {g lb gm : Nat} {S : Dsk}
theorem lt (h : DiskAt w g lb gm S) : g < w.heap.size := (Array.getElem?_eq_some_iff.1 h.cells).1
theorem ne1 (h : DiskAt w g lb gm S) : g ≠ lb := fun e => by
  obtain ⟨cur, h1, _⟩ := h.rows
  have h2 := h.cells
  rw [e, h1] at h2
  simp only [Option.some.injEq, Obj.cells.injEq] at h2
  exact absurd h2.2.1 (by decide)
theorem ne2 (h : DiskAt w g lb gm S) : g ≠ gm := fun e => by
  obtain ⟨es, c, h1⟩ := h.map.block
  have h2 := h.cells
  rw [e, h1] at h2
  cases h2
theorem ne3 (h : DiskAt w g lb gm S) : lb ≠ gm := fun e => by
  obtain ⟨es, c, h1⟩ := h.map.block
  obtain ⟨cur, h2, _⟩ := h.rows
  rw [e, h1] at h2
  cases h2
theorem keep (h : DiskAt w g lb gm S) (k : Bw w w') : DiskAt w' g lb gm S := ⟨(k.block g h.lt).trans h.cells, h.rows.keep k, h.map.keep k, h.ok⟩
theorem keepx {P : Nat → Prop} (h : DiskAt w g lb gm S) (k : Bx P w w') (h1 : ¬ P g) (h2 : ¬ P lb) (h3 : ¬ P gm) : DiskAt w' g lb gm S := ⟨(k.block g h.lt h1).trans h.cells, h.rows.keepx k h2, h.map.keepx k h3, h.ok⟩
theorem c0 (h : DiskAt w g lb gm S) : w.cell? ⟨g, 0, none⟩ = some (.slice (some ⟨lb, 0, none⟩) S.n S.n) := cell_of_row w g 0 _ _ _ h.cells
theorem c1 (h : DiskAt w g lb gm S) : w.cell? ⟨g, 1, none⟩ = some (.map (some gm)) := cell_of_row w g 1 _ _ _ h.cells
theorem c2 (h : DiskAt w g lb gm S) : w.cell? ⟨g, 2, none⟩ = some (.int .i64 S.fuse) := cell_of_row w g 2 _ _ _ h.cells
theorem c3 (h : DiskAt w g lb gm S) : w.cell? ⟨g, 3, none⟩ = some (.bool S.dead) := cell_of_row w g 3 _ _ _ h.cells
theorem f2 (h : DiskAt w g lb gm S) : w.frozen? ⟨g, 2, none⟩ = false := frozen_of_row w g 2 _ _ h.cells
theorem f3 (h : DiskAt w g lb gm S) : w.frozen? ⟨g, 3, none⟩ = false := frozen_of_row w g 3 _ _ h.cells
theorem setFuse (h : DiskAt w g lb gm S) {x : Int} (h0 : -1 ≤ x) (h1 : x < 9223372036854775808) : DiskAt (w.setCell ⟨g, 2, none⟩ (.int .i64 x)) g lb gm { S with fuse := x } := by
  have b : Bx (· = g) w (w.setCell ⟨g, 2, none⟩ (.int .i64 x)) := (Bx.refl _ w).put rfl
  exact ⟨heap_setCell_same w g 2 _ _ _ h.cells, h.rows.keepx b (fun e => h.ne1 e.symm), h.map.keepx b (fun e => h.ne2 e.symm), ⟨h.ok.n0, h.ok.n1, h.ok.lb, h.ok.wb, h0, h1⟩⟩
theorem setDead (h : DiskAt w g lb gm S) (x : Bool) : DiskAt (w.setCell ⟨g, 3, none⟩ (.bool x)) g lb gm { S with dead := x } := by
  have b : Bx (· = g) w (w.setCell ⟨g, 3, none⟩ (.bool x)) := (Bx.refl _ w).put rfl
  exact ⟨heap_setCell_same w g 3 _ _ _ h.cells, h.rows.keepx b (fun e => h.ne1 e.symm), h.map.keepx b (fun e => h.ne2 e.symm), ⟨h.ok.n0, h.ok.n1, h.ok.lb, h.ok.wb, h.ok.f0, h.ok.f1⟩⟩
end DiskAt

theorem powered_yes {w : World} {g lb gm : Nat} {S : Dsk} (h : DiskAt w g lb gm S) (hd : S.dead = false) :
    Calls Try.prog 40 #[.pointer (some ⟨g, 0, none⟩)] w fun e w' => e = .returned (.int .i64 0) ∧ w' = w := by
  have c := h.c3
  rw [hd] at c
  go_enter Try.func40, Try.ntmps40
  go_wp2
  go_ret
  exact ⟨rfl, rfl⟩
theorem powered_no {w : World} {g lb gm : Nat} {S : Dsk} (h : DiskAt w g lb gm S) (hd : S.dead = true) :
    Calls Try.prog 40 #[.pointer (some ⟨g, 0, none⟩)] w fun e w' => e = .returned (.int .i64 140) ∧ w' = w := by
  have c := h.c3
  rw [hd] at c
  go_enter Try.func40, Try.ntmps40
  go_wp2
  go_ret
  exact ⟨rfl, rfl⟩
theorem powered_nil (w : World) : Calls Try.prog 40 #[.pointer none] w fun e w' => e = .returned (.int .i64 8) ∧ w' = w := by
  go_enter Try.func40, Try.ntmps40
  go_wp2
  go_ret
  exact ⟨rfl, rfl⟩
theorem size_any {w : World} {g lb gm : Nat} {S : Dsk} (h : DiskAt w g lb gm S) :
    Calls Try.prog 49 #[.pointer (some ⟨g, 0, none⟩)] w fun e w' => e = .returned (.int .i64 (S.n : Int)) ∧ w' = w := by
  have c := h.c0
  go_enter Try.func49, Try.ntmps49
  go_wp2
  go_ret
  exact ⟨rfl, rfl⟩
theorem size_nil (w : World) : Calls Try.prog 49 #[.pointer none] w fun e w' => e = .returned (.int .i64 0) ∧ w' = w := by
  go_enter Try.func49, Try.ntmps49
  go_wp2
  go_ret
  exact ⟨rfl, rfl⟩
theorem waiting_any {w : World} {g lb gm : Nat} {S : Dsk} (h : DiskAt w g lb gm S) :
    Calls Try.prog 36 #[.pointer (some ⟨g, 0, none⟩)] w fun e w' => e = .returned (.int .i64 ((Dsk.cnt S.is S.n : Nat) : Int)) ∧ w' = w := by
  have c := h.c1
  have hl := h.map.len
  go_enter Try.func36, Try.ntmps36
  go_wp2
  go_ret
  exact ⟨rfl, rfl⟩
theorem waiting_nil (w : World) : Calls Try.prog 36 #[.pointer none] w fun e w' => e = .returned (.int .i64 0) ∧ w' = w := by
  go_enter Try.func36, Try.ntmps36
  go_wp2
  go_ret
  exact ⟨rfl, rfl⟩
theorem dead_any {w : World} {g lb gm : Nat} {S : Dsk} (h : DiskAt w g lb gm S) :
    Calls Try.prog 35 #[.pointer (some ⟨g, 0, none⟩)] w fun e w' => e = .returned (.bool S.dead) ∧ w' = w := by
  have c := h.c3
  go_enter Try.func35, Try.ntmps35
  go_wp2
  go_ret
  exact ⟨rfl, rfl⟩
theorem dead_nil (w : World) : Calls Try.prog 35 #[.pointer none] w fun e w' => e = .returned (.bool false) ∧ w' = w := by
  go_enter Try.func35, Try.ntmps35
  go_wp2
  go_ret
  exact ⟨rfl, rfl⟩
theorem kill_any {w : World} {g lb gm : Nat} {S : Dsk} (h : DiskAt w g lb gm S) :
    Calls Try.prog 64 #[.pointer (some ⟨g, 0, none⟩)] w fun e w' => e = .returned (.tuple #[]) ∧ DiskAt w' g lb gm { S with dead := true, fuse := -1 } ∧ Bx (· = g) w w' := by
  have c := h.c3
  have c' := h.c2
  have f := h.f3
  have f' := h.f2
  have hd := (h.setDead true).setFuse (x := -1) (by decide) (by decide)
  go_enter Try.func64, Try.ntmps64
  go_wp2
  go_end0
  exact ⟨rfl, hd, ((Bx.refl (· = g) w).put rfl).put rfl⟩
theorem kill_nil (w : World) : Calls Try.prog 64 #[.pointer none] w fun e w' => e = .returned (.tuple #[]) ∧ w' = w := by
  go_enter Try.func64, Try.ntmps64
  go_wp2
  go_end0
  exact ⟨rfl, rfl⟩
theorem fuse_any {w : World} {g lb gm : Nat} {S : Dsk} (h : DiskAt w g lb gm S) (x : Int) (hx : x < 9223372036854775808) :
    Calls Try.prog 25 #[.pointer (some ⟨g, 0, none⟩), .int .i64 x] w fun e w' => e = .returned (.tuple #[]) ∧ DiskAt w' g lb gm { S with fuse := max x (-1) } ∧ Bx (· = g) w w' := by
  have c' := h.c2
  have f' := h.f2
  by_cases hm : -1 ≤ x
  · rw [show max x (-1) = x by omega]
    have hd := h.setFuse (x := x) (by omega) (by omega)
    go_enter Try.func25, Try.ntmps25
    go_wp2
    go_end0
    exact ⟨rfl, hd, (Bx.refl _ w).put rfl⟩
  · rw [show max x (-1) = -1 by omega]
    have hd := h.setFuse (x := -1) (by omega) (by omega)
    go_enter Try.func25, Try.ntmps25
    go_wp2
    go_end0
    exact ⟨rfl, hd, (Bx.refl _ w).put rfl⟩
theorem fuse_nil (w : World) (x : Int) : Calls Try.prog 25 #[.pointer none, .int .i64 x] w fun e w' => e = .returned (.tuple #[]) ∧ w' = w := by
  go_enter Try.func25, Try.ntmps25
  go_wp2
  go_end0
  exact ⟨rfl, rfl⟩
theorem burn_no {w : World} {g lb gm : Nat} {S : Dsk} (h : DiskAt w g lb gm S) (hf : S.fuse = 0) :
    Calls Try.prog 45 #[.pointer (some ⟨g, 0, none⟩)] w fun e w' => e = .returned (.int .i64 140) ∧ DiskAt w' g lb gm { S with dead := true, fuse := -1 } ∧ Bx (· = g) w w' := by
  have c := h.c2
  rw [hf] at c
  have HK := kill_any h
  go_enter Try.func45, Try.ntmps45
  go_wp2_with (go_at_call 64; refine HK.mono ?_; rintro e w1 ⟨rfl, h1, h2⟩)
  go_ret
  exact ⟨rfl, h1, h2⟩
theorem burn_yes {w : World} {g lb gm : Nat} {S : Dsk} (h : DiskAt w g lb gm S) (hf : S.fuse ≠ 0) :
    Calls Try.prog 45 #[.pointer (some ⟨g, 0, none⟩)] w fun e w' => e = .returned (.int .i64 0) ∧ DiskAt w' g lb gm { S with fuse := max (S.fuse - 1) (-1) } ∧ Bx (· = g) w w' := by
  have c := h.c2
  have f' := h.f2
  have h0 := h.ok.f0
  have h1 := h.ok.f1
  have e0 : (S.fuse == 0) = false := by simp [hf]
  by_cases hm : -1 ≤ S.fuse - 1
  · rw [show max (S.fuse - 1) (-1) = S.fuse - 1 by omega]
    have hd := h.setFuse (x := S.fuse - 1) (by omega) (by omega)
    go_enter Try.func45, Try.ntmps45
    go_wp2
    go_ret
    exact ⟨rfl, hd, (Bx.refl _ w).put rfl⟩
  · rw [show max (S.fuse - 1) (-1) = -1 by omega]
    have hd := h.setFuse (x := -1) (by omega) (by omega)
    go_enter Try.func45, Try.ntmps45
    go_wp2
    go_ret
    exact ⟨rfl, hd, (Bx.refl _ w).put rfl⟩
/-- so many sectors are there -/
def Dsk.There (S : Dsk) (at_ count : Int) : Prop := 0 ≤ at_ ∧ 0 ≤ count ∧ at_ + count ≤ S.n
theorem has_yes {w : World} {g lb gm : Nat} {S : Dsk} (h : DiskAt w g lb gm S) (x y : Int) (hx : S.There x y) :
    Calls Try.prog 41 #[.pointer (some ⟨g, 0, none⟩), .int .i64 x, .int .i64 y] w fun e w' => e = .returned (.bool true) ∧ w' = w := by
  have c := h.c0
  have hn := h.ok.n1
  obtain ⟨h1, h2, h3⟩ := hx
  have h4 : y ≤ (S.n : Int) - x := by omega
  go_enter Try.func41, Try.ntmps41
  go_wp2
  go_ret
  exact ⟨rfl, rfl⟩
theorem has_no {w : World} {g lb gm : Nat} {S : Dsk} (h : DiskAt w g lb gm S) (x y : Int) (bx : x < 9223372036854775808) (hx : ¬ S.There x y) :
    Calls Try.prog 41 #[.pointer (some ⟨g, 0, none⟩), .int .i64 x, .int .i64 y] w fun e w' => e = .returned (.bool false) ∧ w' = w := by
  have c := h.c0
  have hn := h.ok.n1
  unfold Dsk.There at hx
  by_cases h1 : 0 ≤ x
  · by_cases h2 : 0 ≤ y
    · have h4 : ¬ y ≤ (S.n : Int) - x := by omega
      clear hx
      go_enter Try.func41, Try.ntmps41
      go_wp2
      go_ret
      exact ⟨rfl, rfl⟩
    · clear hx
      go_enter Try.func41, Try.ntmps41
      go_wp2
      go_ret
      exact ⟨rfl, rfl⟩
  · clear hx
    go_enter Try.func41, Try.ntmps41
    go_wp2
    go_ret
    exact ⟨rfl, rfl⟩

end Go.Proofs.Ytppknadflmjefaa

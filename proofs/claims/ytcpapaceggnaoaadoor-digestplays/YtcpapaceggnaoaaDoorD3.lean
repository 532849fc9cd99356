/- Contract of the document's own taken, of layer 5. -/
import Derived.Test.YtcpapaceggnaoaaDoorD2
namespace Go.Proofs.YtcpapaceggnaoaaDoor
open Go.RowKit Go.Deep

/-- eight words as an array's cells -/
def cells8 (s : Nat → Nat) : Array Value := #[.int .u32 ((s 0 : Nat) : Int), .int .u32 ((s 1 : Nat) : Int), .int .u32 ((s 2 : Nat) : Int), .int .u32 ((s 3 : Nat) : Int), .int .u32 ((s 4 : Nat) : Int), .int .u32 ((s 5 : Nat) : Int), .int .u32 ((s 6 : Nat) : Int), .int .u32 ((s 7 : Nat) : Int)]
theorem cells8_size (s : Nat → Nat) : (cells8 s).size = 8 := rfl
theorem cells8_all (s : Nat → Nat) : (cells8 s).all (·.oneCell') = true := by kernel_rfl
theorem cells8_at (s : Nat → Nat) (i : Nat) (h : i < 8) : (cells8 s)[i]? = some (.int .u32 ((s i : Nat) : Int)) := by
  have h' : i = 0 ∨ i = 1 ∨ i = 2 ∨ i = 3 ∨ i = 4 ∨ i = 5 ∨ i = 6 ∨ i = 7 := by omega
  rcases h' with rfl | rfl | rfl | rfl | rfl | rfl | rfl | rfl <;> rfl
def zeros8 : Array Value := Array.replicate 8 (.int .u32 0)
theorem zero8 (w : World) : (zeroValue 43).run Tryd.prog w = .ok (.agg zeros8) w := by kernel_rfl
theorem info8 (s : Nat → Nat) : (Tryd.prog.info? 43).map (·.size) = some (cells8 s).size := by kernel_rfl

/-- eight words in a block -/
def EightAt (w : World) (g : Nat) (s : Nat → Nat) : Prop := w.heap[g]? = some (.cells (cells8 s) 43 (0, 0))
theorem EightAt.keep {w w' : World} {g : Nat} {s : Nat → Nat} (h : EightAt w g s) (k : Bw w w') : EightAt w' g s :=
  (k.block g (Array.getElem?_eq_some_iff.1 h).1).trans h
theorem EightAt.cell {w : World} {g : Nat} {s : Nat → Nat} (h : EightAt w g s) (i : Nat) (hi : i < 8) : w.cell? ⟨g, i, none⟩ = some (.int .u32 ((s i : Nat) : Int)) ∧ w.frozen? ⟨g, i, none⟩ = false :=
  ⟨(cell_of_row w g i _ _ _ h).trans (cells8_at s i hi), frozen_of_row w g i _ _ h⟩

theorem not_val {x : Nat} (hx : x < 4294967296) : bits .xor .u32 IntKind.u32.max (x : Int) = ((x ^^^ Sha.ones : Nat) : Int) := by
  rw [show IntKind.u32.max = ((Sha.ones : Nat) : Int) by decide, u32_xor_nat _ _ (by decide) hx, Nat.xor_comm]

theorem setRow_alloc2 (W : World) (o : Obj) (a b : Array Value) (t : TypeId) : ((W.alloc o).alloc (.cells a t)).setRow (W.heap.size + 1) b = (W.alloc o).alloc (.cells b t) := by
  have := setRow_alloc_new (W.alloc o) a b t
  rwa [size_alloc] at this

theorem cells8_congr {m m' : Nat → Nat} (h : ∀ i, i < 8 → m i = m' i) : cells8 m = cells8 m' := by
  unfold cells8
  rw [h 0 (by omega), h 1 (by omega), h 2 (by omega), h 3 (by omega), h 4 (by omega), h 5 (by omega), h 6 (by omega), h 7 (by omega)]
theorem eight_setRow {w : World} {g : Nat} {s r r' : Nat → Nat} (h : EightAt w g s) (e : r' = r) : EightAt (w.setRow g (cells8 r)) g r' := by
  rw [e]; exact setRow_heap w g _ _ _ _ h
theorem setRow_bx (w : World) (g : Nat) (cs : Array Value) : Bx (· = g) w (w.setRow g cs) :=
  ⟨rfl, rfl, rfl, by simp [World.setRow], fun k _ hk => setRow_other w g k _ (by omega)⟩
/-- the first k words with those of R added -/
def sumTo (s R : Nat → Nat) (k i : Nat) : Nat := if i < k then Sha.add (s i) (R i) else s i
theorem EightAt.set {w : World} {g k : Nat} {m m' : Nat → Nat} (h : EightAt w g m) (hk : k < 8) {z : Int} (e : z = ((m' k : Nat) : Int)) (ho : ∀ i, i < 8 → i ≠ k → m' i = m i) : EightAt (w.setCell ⟨g, k, none⟩ (.int .u32 z)) g m' := by
  have h1 := heap_setCell_same w g k (cells8 m) _ (.int .u32 z) h
  have h2 : (cells8 m).setIfInBounds k (.int .u32 z) = cells8 m' := by
    apply Array.ext_getElem?
    intro i
    by_cases hi : i < 8
    · rw [cells8_at m' i hi]
      by_cases e' : i = k
      · subst e'; rw [Array.getElem?_setIfInBounds_self_of_lt (by rw [cells8_size]; omega), e]
      · rw [Array.getElem?_setIfInBounds_ne (Ne.symm e'), cells8_at m i hi, ho i hi e']
    · rw [Array.getElem?_eq_none (by simp [cells8_size]; omega), Array.getElem?_eq_none (by rw [cells8_size]; omega)]
  rw [h2] at h1
  exact h1

set_option maxRecDepth 100000 in
set_option maxHeartbeats 4000000 in
theorem taken_any (s : Nat → Nat) (hs : ∀ i, s i < 4294967296) (A : Option Addr) (L ca : Nat) (f : Nat → Int) (hL : 64 ≤ L) (hL2 : L ≤ 140737488355328) (w : World) (hrow : RowAt w A L f) :
    Calls Tryd.prog 19 #[.agg (cells8 s), .slice A L ca] w fun e w' => e = .returned (.agg (cells8 (Sha.taken s (nbD f)))) ∧ Bw w w' := by
  have hz := zero64
  have hz8 := zero8
  have hi8 := info8
  have hi64 : (Tryd.prog.info? 50).map (·.size) = some kcells.size := by rw [kcells_size]; kernel_rfl
  go_enter Tryd.func19, Tryd.ntmps19
  have hbw0 : Bw w ((w.alloc (.cells (cells8 s) 43)).alloc (.cells zeros8 43)) := ((Below.refl _ _).alloc (Nat.le_refl _) _).alloc (by rw [size_alloc]; omega) _
  have hbox0 : EightAt ((w.alloc (.cells (cells8 s) 43)).alloc (.cells zeros8 43)) w.heap.size s := heap_alloc2_old _ _ _
  have hres0 : ((w.alloc (.cells (cells8 s) 43)).alloc (.cells zeros8 43)).heap[w.heap.size + 1]? = some (.cells zeros8 43 (0, 0)) := heap_alloc2_new _ _ _
  have hal : ∀ (W : World) (o : Obj), Bw W (W.alloc o) := fun W o => (Below.refl _ _).alloc (Nat.le_refl _) _
  go_wp2_with (first
    | (go_at_call 23; refine (words_any A L ca f hL hL2 _ (hrow.keep hbw0)).mono ?_; rintro e w1 ⟨T, rfl, hTs, hTall, hTv, hw1⟩; have hiT : (Tryd.prog.info? 50).map (·.size) = some T.size := (by rw [hTs]; kernel_rfl))
    | (go_at_call 24; refine (numbers_any _).mono ?_; rintro e w2 ⟨rfl, hw2⟩; have hb2 : Bw w1 w2 := (by rw [hw2]; exact (hal _ _).trans (hal _ _)); have hW2 : w2.heap[w1.heap.size]? = some (.cells T 50 (0, 0)) := (by rw [hw2]; exact heap_alloc2_old _ _ _); have sz2 : w1.heap.size < w2.heap.size := (Array.getElem?_eq_some_iff.1 hW2).1; clear hw2)
    | (refine wpList_store_row rfl 50 _ _ rfl _ T rfl rfl 50 zeros64 (heap_alloc_new _ _) hiT (by rw [hTs]; rfl) hTall ?_; rw [setRow_alloc_new])
    | (refine wpList_store_row rfl 50 _ _ rfl _ kcells rfl rfl 50 zeros64 (heap_alloc_new _ _) hi64 (by rw [kcells_size]; rfl) kcells_all ?_; rw [setRow_alloc_new])
    | refine wpList_load_row rfl 43 _ rfl w.heap.size rfl 43 (cells8 s) (0, 0) _ (((hbox0.keep hw1).keep hb2).keep (hal _ _)) Tryd.underlying43 rfl (hi8 s) ?_
    | (refine wpList_store_row rfl 43 _ _ rfl (w2.heap.size + 1) (cells8 s) rfl rfl 43 zeros8 (heap_alloc2_new _ _ _) (hi8 s) rfl (cells8_all s) ?_; rw [setRow_alloc2]))
  obtain ⟨w3, hw3⟩ : ∃ w3, w3 = (w2.alloc (.cells kcells 50)).alloc (.cells (cells8 s) 43) := ⟨_, rfl⟩
  rw [← hw3]
  have hS3 : EightAt w3 (w2.heap.size + 1) s := by rw [hw3]; exact heap_alloc2_new _ _ _
  have hK3 : w3.heap[w2.heap.size]? = some (.cells kcells 50 (0, 0)) := by rw [hw3]; exact heap_alloc2_old _ _ _
  have hb3 : Bw w2 w3 := by rw [hw3]; exact (hal _ _).trans (hal _ _)
  have hT3 : w3.heap[w1.heap.size]? = some (.cells T 50 (0, 0)) := (hb3.block _ sz2).trans hW2
  have hB3 : EightAt w3 w.heap.size s := ((hbox0.keep hw1).keep hb2).keep hb3
  have hR3 : w3.heap[w.heap.size + 1]? = some (.cells zeros8 43 (0, 0)) := (((hw1.trans hb2).trans hb3).block _ (Array.getElem?_eq_some_iff.1 hres0).1).trans hres0
  have hbw3 : Bw w w3 := hbw0.trans ((hw1.trans hb2).trans hb3)
  have z1 : w.heap.size + 2 ≤ w1.heap.size := by have := hw1.size; rw [size_alloc, size_alloc] at this; omega
  clear hw3 hbox0 hres0 hW2 hz hz8 hbw0 hw1 hb2 hb3 hiT hi64 hal
  go_loopw [8] (fun i wr => ∃ t : Nat, t ≤ 64 ∧ i = .int .i64 t ∧ EightAt wr (w2.heap.size + 1) (Sha.rounds (nbD f) s t) ∧ Bx (· = w2.heap.size + 1) w3 wr) (fun i _ => 64 - (intOf i).toNat)
  case atStart => exact ⟨0, Nat.zero_le _, rfl, hS3, Bx.refl _ _⟩
  case round =>
    obtain ⟨t, ht, rfl, hE, hx⟩ := hrel
    have hKr : wr.heap[w2.heap.size]? = some (.cells kcells 50 (0, 0)) := (hx.block _ (Array.getElem?_eq_some_iff.1 hK3).1 (by omega)).trans hK3
    have hTr : wr.heap[w1.heap.size]? = some (.cells T 50 (0, 0)) := (hx.block _ (Array.getElem?_eq_some_iff.1 hT3).1 (by omega)).trans hT3
    by_cases hlt : t < 64
    · obtain ⟨r, hr⟩ : ∃ r, Hid (r = Sha.rounds (nbD f) s t) := ⟨_, rfl⟩
      rw [← hr.out] at hE
      have hrl : ∀ i, r i < 4294967296 := by rw [hr.out]; exact Sha.rounds_lt hs t
      have ck : wr.cell? ⟨w2.heap.size, t, none⟩ = some (.int .u32 ((Sha.kn t : Nat) : Int)) := (cell_of_row wr _ t _ _ _ hKr).trans (kcells_at t hlt)
      have cw : wr.cell? ⟨w1.heap.size, t, none⟩ = some (.int .u32 ((Sha.wd (nbD f) t : Nat) : Int)) := (cell_of_row wr _ t _ _ _ hTr).trans (hTv t hlt)
      have c0 := (hE.cell 0 (by omega)).1
      have c1 := (hE.cell 1 (by omega)).1
      have c2 := (hE.cell 2 (by omega)).1
      have c3 := (hE.cell 3 (by omega)).1
      have c4 := (hE.cell 4 (by omega)).1
      have c5 := (hE.cell 5 (by omega)).1
      have c6 := (hE.cell 6 (by omega)).1
      have c7 := (hE.cell 7 (by omega)).1
      have t0 : (0 : Int) ≤ (t : Int) := Int.natCast_nonneg _
      have t1 : (t : Int) < 64 := by omega
      obtain ⟨kk, hkk⟩ : ∃ k, Hid (k = Sha.kn t) := ⟨_, rfl⟩
      obtain ⟨ww, hww⟩ : ∃ k, Hid (k = Sha.wd (nbD f) t) := ⟨_, rfl⟩
      rw [← hkk.out] at ck
      rw [← hww.out] at cw
      clear hTv hKr hTr hK3 hT3 hTall
      have l0 := hrl 0
      have l1 := hrl 1
      have l2 := hrl 2
      have l3 := hrl 3
      have l4 := hrl 4
      have l5 := hrl 5
      have l6 := hrl 6
      have l7 := hrl 7
      have hrd : Hid (∀ i, Sha.rounds (nbD f) s (t + 1) i = Sha.rd r kk ww i) := fun i => by rw [hr.out, hkk.out, hww.out]; rfl
      have hu : Hid (Sha.uu r kk ww = Sha.add (Sha.add (Sha.add (Sha.add (r 7) (Sha.SG1 (r 4))) (Sha.ch (r 4) (r 5) (r 6))) kk) ww) := rfl
      have hv : Hid (Sha.vv r = Sha.add (Sha.SG0 (r 0)) (Sha.maj (r 0) (r 1) (r 2))) := rfl
      have e1 := u32_xor_nat _ _ (Sha.rot_lt 6 l4) (Sha.rot_lt 11 l4)
      have e2 : bits .xor .u32 ((Sha.rot 6 (r 4) ^^^ Sha.rot 11 (r 4) : Nat) : Int) ((Sha.rot 25 (r 4) : Nat) : Int) = ((Sha.SG1 (r 4) : Nat) : Int) := u32_xor_nat _ _ (Sha.xor_lt (Sha.rot_lt 6 l4) (Sha.rot_lt 11 l4)) (Sha.rot_lt 25 l4)
      have e3 := add_val (r 7) (Sha.SG1 (r 4))
      have e4 := u32_and_nat _ _ l4 l5
      have e5 : bits .xor .u32 (if IntKind.u32.signed = true then -1 else IntKind.u32.max) ((r 4 : Nat) : Int) = ((r 4 ^^^ Sha.ones : Nat) : Int) := not_val l4
      have e5' : bits .xor .u32 IntKind.u32.max ((r 4 : Nat) : Int) = ((r 4 ^^^ Sha.ones : Nat) : Int) := not_val l4
      have e6 := u32_and_nat _ _ (Sha.xor_lt l4 (show Sha.ones < 4294967296 by decide)) l6
      have e7 : bits .xor .u32 ((r 4 &&& r 5 : Nat) : Int) (((r 4 ^^^ Sha.ones) &&& r 6 : Nat) : Int) = ((Sha.ch (r 4) (r 5) (r 6) : Nat) : Int) := u32_xor_nat _ _ (Sha.and_lt _ l4) (Sha.and_lt _ (Sha.xor_lt l4 (by decide)))
      have e8 := add_val (Sha.add (r 7) (Sha.SG1 (r 4))) (Sha.ch (r 4) (r 5) (r 6))
      have e9 := add_val (Sha.add (Sha.add (r 7) (Sha.SG1 (r 4))) (Sha.ch (r 4) (r 5) (r 6))) kk
      have e10 := add_val (Sha.add (Sha.add (Sha.add (r 7) (Sha.SG1 (r 4))) (Sha.ch (r 4) (r 5) (r 6))) kk) ww
      go_wp2
      go_region_held3 (fun w' => w'.cell? ⟨w2.heap.size + 1, 5, none⟩ = some (.int .u32 ((r 5 : Nat) : Int)) ∧ w'.cell? ⟨w2.heap.size + 1, 6, none⟩ = some (.int .u32 ((r 6 : Nat) : Int)) ∧ w'.cell? ⟨w2.heap.size + 1, 7, none⟩ = some (.int .u32 ((r 7 : Nat) : Int)) ∧ w'.cell? ⟨w2.heap.size, t, none⟩ = some (.int .u32 (kk : Int)) ∧ w'.cell? ⟨w1.heap.size, t, none⟩ = some (.int .u32 (ww : Int)))
        (first | go_keep) (first | (go_at_call 25; refine (turned_lit _ _ ‹_› (by omega) (by omega) _).mono ?_; rintro e w' ⟨q, rfl, hw'⟩; subst w'))
      rw [← hu.out]
      have hda : ∀ n, Bw wr (wr.drewN n) := fun n => Bw.drewN wr n
      generalize hwa : wr.drewN _ = wa
      have hba : Bw wr wa := by rw [← hwa]; exact hda _
      have hEa := hE.keep hba
      have hxa : Bx (· = w2.heap.size + 1) w3 wa := hx.trans (Bx.of_bw hba)
      clear hwa hba hda hE hx c0 c1 c2 c3 c4 c5 c6 c7 ck cw e1 e2 e3 e4 e5 e5' e6 e7 e8 e9 e10
      have c0 := (hEa.cell 0 (by omega)).1
      have c1 := (hEa.cell 1 (by omega)).1
      have c2 := (hEa.cell 2 (by omega)).1
      have c3 := (hEa.cell 3 (by omega)).1
      have c5 := (hEa.cell 5 (by omega)).1
      have c6 := (hEa.cell 6 (by omega)).1
      have e1 := u32_xor_nat _ _ (Sha.rot_lt 2 l0) (Sha.rot_lt 13 l0)
      have e2 : bits .xor .u32 ((Sha.rot 2 (r 0) ^^^ Sha.rot 13 (r 0) : Nat) : Int) ((Sha.rot 22 (r 0) : Nat) : Int) = ((Sha.SG0 (r 0) : Nat) : Int) := u32_xor_nat _ _ (Sha.xor_lt (Sha.rot_lt 2 l0) (Sha.rot_lt 13 l0)) (Sha.rot_lt 22 l0)
      have e3 := u32_and_nat _ _ l0 l1
      have e4 := u32_and_nat _ _ l0 l2
      have e5 := u32_and_nat _ _ l1 l2
      have e6 := u32_xor_nat _ _ (Sha.and_lt (r 1) l0) (Sha.and_lt (r 2) l0)
      have e7 : bits .xor .u32 (((r 0 &&& r 1) ^^^ (r 0 &&& r 2) : Nat) : Int) ((r 1 &&& r 2 : Nat) : Int) = ((Sha.maj (r 0) (r 1) (r 2) : Nat) : Int) := u32_xor_nat _ _ (Sha.xor_lt (Sha.and_lt (r 1) l0) (Sha.and_lt (r 2) l0)) (Sha.and_lt (r 2) l1)
      have e8 := add_val (Sha.SG0 (r 0)) (Sha.maj (r 0) (r 1) (r 2))
      go_wp2
      go_region_held3 (fun w' => w'.cell? ⟨w2.heap.size + 1, 1, none⟩ = some (.int .u32 ((r 1 : Nat) : Int)) ∧ w'.cell? ⟨w2.heap.size + 1, 2, none⟩ = some (.int .u32 ((r 2 : Nat) : Int)))
        (first | go_keep) (first | (go_at_call 25; refine (turned_lit _ _ ‹_› (by omega) (by omega) _).mono ?_; rintro e w' ⟨q, rfl, hw'⟩; subst w'))
      rw [← hv.out]
      have hda : ∀ n, Bw wa (wa.drewN n) := fun n => Bw.drewN wa n
      generalize hwb : wa.drewN _ = wb
      have hbb : Bw wa wb := by rw [← hwb]; exact hda _
      have hEb := hEa.keep hbb
      have hxb : Bx (· = w2.heap.size + 1) w3 wb := hxa.trans (Bx.of_bw hbb)
      clear hwb hbb hda hEa hxa c0 c1 c2 c3 c5 c6 e1 e2 e3 e4 e5 e6 e7 e8
      have c1 := (hEb.cell 1 (by omega)).1
      have c2 := (hEb.cell 2 (by omega)).1
      have c3 := (hEb.cell 3 (by omega)).1
      have c5 := (hEb.cell 5 (by omega)).1
      have c6 := (hEb.cell 6 (by omega)).1
      have e1 := add_val (Sha.uu r kk ww) (Sha.vv r)
      have e2 := add_val (r 3) (Sha.uu r kk ww)
      rw [IntKind.wrap_u32'] at e1 e2
      go_wp2_with (first
        | refine wpList_built rfl 43 _ rfl (cells8 (Sha.rd r kk ww)) (by kernel_rfl) ?_
        | refine wpList_store_row rfl 43 _ _ rfl (w2.heap.size + 1) (cells8 (Sha.rd r kk ww)) rfl rfl 43 (cells8 r) hEb (hi8 _) rfl (cells8_all _) ?_)
      go_roundw
      case rel => exact ⟨t + 1, by omega, by go_num, eight_setRow hEb (funext hrd.out), hxb.trans (setRow_bx wb _ _)⟩
      case measure => simp [intOf]; omega
    · have e8 : t = 64 := by omega
      subst e8
      obtain ⟨R, hR⟩ : ∃ R, Hid (R = Sha.rounds (nbD f) s 64) := ⟨_, rfl⟩
      rw [← hR.out] at hE
      have hRl : ∀ i, R i < 4294967296 := by rw [hR.out]; exact Sha.rounds_lt hs 64
      have hBr : EightAt wr w.heap.size s := (hx.block _ (Array.getElem?_eq_some_iff.1 hB3).1 (by omega)).trans hB3
      have hRr : wr.heap[w.heap.size + 1]? = some (.cells zeros8 43 (0, 0)) := (hx.block _ (Array.getElem?_eq_some_iff.1 hR3).1 (by omega)).trans hR3
      have hbwr : Bw w wr := Below.trans hbw3 (hx.below hbw3.size (fun b e => by omega))
      clear hKr hTr hK3 hT3 hTall hTv hS3 hB3 hR3 hx hlt ht hTs
      rename World => wo
      go_wp2
      go_loopw [13] (fun i wr => ∃ k : Nat, k ≤ 8 ∧ i = .int .i64 k ∧ EightAt wr w.heap.size (sumTo s R k) ∧ EightAt wr (w2.heap.size + 1) R ∧ wr.heap[w.heap.size + 1]? = some (.cells zeros8 43 (0, 0)) ∧ Bw w wr) (fun i _ => 8 - (intOf i).toNat)
      case atStart => exact ⟨0, Nat.zero_le _, rfl, hBr, hE, hRr, hbwr⟩
      case round =>
        obtain ⟨k, hk, rfl, hB, hEr, hZ, hbw⟩ := hrel
        by_cases hlt : k < 8
        · obtain ⟨c0, f0⟩ := hB.cell k hlt
          have c1 := (hEr.cell k hlt).1
          have e0 : sumTo s R k k = s k := by unfold sumTo; rw [if_neg (by omega)]
          rw [e0] at c0
          have hsk := hs k
          have hRk := hRl k
          have k0 : (0 : Int) ≤ (k : Int) := Int.natCast_nonneg _
          have k1 : (k : Int) < 8 := by omega
          have e1 := add_val (s k) (R k)
          have e2 := e1
          rw [IntKind.wrap_u32'] at e2
          have hne : ¬ w.heap.size = w2.heap.size + 1 := by omega
          go_wp2
          go_region
          go_wp2
          go_roundw
          case rel =>
            refine ⟨k + 1, by omega, by go_num, hB.set hlt (by unfold sumTo; rw [if_pos (by omega)]) (fun i _ hi => ?_), (heap_setCell_other _ _ _ _ (by simp only; omega)).trans hEr, (heap_setCell_other _ _ _ _ (by simp only; omega)).trans hZ, (Bw.put hbw (Nat.le_refl _) _ _).drew⟩
            unfold sumTo
            by_cases e : i < k
            · rw [if_pos e, if_pos (by omega)]
            · rw [if_neg e, if_neg (by omega)]
          case measure => simp [intOf]; omega
        · have e8 : k = 8 := by omega
          subst e8
          have hce : cells8 (sumTo s R 8) = cells8 (Sha.taken s (nbD f)) := cells8_congr (fun i hi => by unfold sumTo Sha.taken; rw [if_pos hi, hR.out])
          unfold EightAt at hB
          obtain ⟨m, hm⟩ : ∃ m, Hid (m = Sha.taken s (nbD f)) := ⟨_, rfl⟩
          rw [hce, ← hm.out] at hB
          clear hce hEr hE hBr hRr hbwr
          go_wp2_with (first
            | refine wpList_load_row rfl 43 _ rfl w.heap.size rfl 43 (cells8 m) (0, 0) _ hB Tryd.underlying43 rfl (hi8 m) ?_
            | refine wpList_store_row rfl 43 _ _ rfl (w.heap.size + 1) (cells8 m) rfl rfl 43 zeros8 hZ (hi8 m) rfl (cells8_all m) ?_)
          exact bodyPost_ret (results_cell_row Tryd.results19 _ _ (w.heap.size + 1) 43 (cells8 m) (0, 0) _ rfl (setRow_heap wr (w.heap.size + 1) _ _ _ _ hZ) Tryd.underlying43 rfl (hi8 m)) rfl ⟨by rw [hm.out], setRow_bw hbw (by omega) _⟩
end Go.Proofs.YtcpapaceggnaoaaDoor

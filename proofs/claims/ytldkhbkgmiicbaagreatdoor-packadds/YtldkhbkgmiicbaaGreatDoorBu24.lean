/- Texts of mine, put together. -/
import Derived.Test.YtldkhbkgmiicbaaGreatDoorBu23
import Derived.Test.YtldkhbkgmiicbaaGreatDoorBu22
import Derived.Great.BuildSlice

/- Contracts of the program's Get and Exact. -/
namespace Go.Proofs.YtldkhbkgmiicbaaGreatDoor
open Go.RowKit Go.Deep
set_option linter.unusedVariables false
set_option linter.unusedSimpArgs false

end Go.Proofs.YtldkhbkgmiicbaaGreatDoor

/- Written rows of bytes; the contract of the statements' own awake; Put with and without a form. -/
namespace Go.Proofs.YtldkhbkgmiicbaaGreatDoor
open Go.RowKit Go.Deep
set_option linter.unusedVariables false
set_option linter.unusedSimpArgs false

namespace Oct
/-- a written row of bytes -/
def lit (l : List Nat) (i : Nat) : Int := ((l.getD i 0 : Nat) : Int)
/-- there is a form -/
def Has (n z : Int) : Prop := 2 ≤ z ∧ z ≤ 12 ∧ 0 ≤ n ∧ (n.toNat < 8 ^ (z.toNat - 1) ∨ n.toNat < 256 ^ (z.toNat - 1))
/-- Put's error where there is none -/
def errP (n z : Int) : Int := if (2 ≤ z ∧ z ≤ 12) ∧ 0 ≤ n then 2 else 1
end Oct

theorem oput_yes (n : Int) (W : Nat) (hn : n ≤ 9223372036854775807) (h : Oct.Has n (W : Int)) (w : World) : Calls Tryz.prog 88 #[.int .i64 n, .int .i64 (W : Int)] w fun e w' =>
    ∃ g, e = .returned (.tuple #[.slice (some ⟨g, 0, none⟩) W W, .int .i64 0]) ∧ BlockIs w' g W (Oct.formF n.toNat W) ∧ w.heap.size ≤ g ∧ Bw w w' := by
  refine (oput_any n (W : Int) hn w).mono ?_
  rintro e w' hp
  obtain ⟨g, he, ho, hg⟩ := hp.form h.1 h.2.1 h.2.2.1 h.2.2.2
  rw [Int.toNat_natCast] at he ho
  exact ⟨g, he, ho, hg, hp.keeps⟩
theorem bw_alloc7 {w w' : World} (h : Bw w w') (o : Obj) : Bw w (w'.alloc o) := Below.alloc h h.size o

end Go.Proofs.YtldkhbkgmiicbaaGreatDoor

/- Arrays of 512 bytes in memory; the program's own sum and form, as landed at e169a841. -/
namespace Go.Proofs.YtldkhbkgmiicbaaGreatDoor
open Go.RowKit Go.Deep
set_option linter.unusedVariables false
set_option linter.unusedSimpArgs false

theorem info_raw {l : Hd.B} (h : l.length = 512) : (Tryz.prog.info? 84).map (·.size) = some (Hd.arr l).size := by
  rw [Hd.arr_size, h]; kernel_rfl
theorem zero_raw (w : World) : (zeroValue 84).run Tryz.prog w = .ok (.agg (Hd.arr Hd.zeros)) w := by kernel_rfl
/-- an array of these bytes in a block -/
def ArrAt (w : World) (g : Nat) (l : Hd.B) : Prop := w.heap[g]? = some (.cells (Hd.arr l) 84 (0, 0))
theorem ArrAt.lt {w : World} {g : Nat} {l : Hd.B} (h : ArrAt w g l) : g < w.heap.size := (Array.getElem?_eq_some_iff.1 h).1
theorem ArrAt.keep {w w' : World} {g : Nat} {l : Hd.B} (h : ArrAt w g l) (b : Bw w w') : ArrAt w' g l := (b.block g h.lt).trans h
theorem ArrAt.keepx {S : Nat → Prop} {w w' : World} {g : Nat} {l : Hd.B} (h : ArrAt w g l) (b : Bx S w w') (hg : ¬ S g) : ArrAt w' g l := (b.block g h.lt hg).trans h
theorem ArrAt.cell {w : World} {g : Nat} {l : Hd.B} (h : ArrAt w g l) {c : Nat} (hc : c < l.length) : w.cell? ⟨g, c, none⟩ = some (.int .u8 (Hd.rowF l c)) ∧ w.frozen? ⟨g, c, none⟩ = false :=
  ⟨(cell_of_row w g c _ _ _ h).trans (Hd.arr_row hc), frozen_of_row w g c _ _ h⟩
/-- a piece of an array as a row -/
theorem ArrAt.row {w : World} {g : Nat} {l : Hd.B} (h : ArrAt w g l) (o n : Nat) (hn : o + n ≤ l.length) : RowAt w (some ⟨g, o, none⟩) n (Hd.rowF ((l.drop o).take n)) := by
  refine ⟨.inr ⟨g, o, rfl, fun i hi => ?_⟩, Hd.rowF_bd _⟩
  rw [(h.cell (c := o + i) (by omega)).1]
  have e : ((l.drop o).take n)[i]? = some l[o + i] := by rw [List.getElem?_take, if_pos hi, List.getElem?_drop, List.getElem?_eq_getElem (by omega)]
  rw [Hd.rowF_at e, Hd.rowF_at (List.getElem?_eq_getElem (show o + i < l.length by omega))]
theorem arr_new (w : World) (l : Hd.B) : ArrAt (w.alloc (.cells (Hd.arr l) 84)) w.heap.size l := heap_alloc_new _ _
theorem index_raw (w : World) {l : Hd.B} {k : Nat} (hl : l.length = 512) (hk : k < 512) : (Instr.index 84 (.agg (Hd.arr l)) (.int .i64 (k : Int))).run Tryz.prog w = .ok (.int .u8 (Hd.rowF l k)) w := by
  simp [Instr.index, run_underlying Tryz.underlying84, asIntOf, hk, go_sem]
  rw [Hd.arr_row (by omega)]; rfl
/-- a row laid over an array -/
theorem run_copy_arr {w : World} {g o n : Nat} {l s : Hd.B} (m cap cb : Nat) (ty : TypeId) {A : Option Addr} (hg : ArrAt w g l) (hn : s.length = n) (ho : o + n ≤ l.length) (hm : n ≤ m) (h0 : 0 < n) (hB : RowAt w A n (Hd.rowF s)) :
    (Builtin.copy_ #[24, 24] ty #[.slice (some ⟨g, o, none⟩) m cap, .slice A n cb]).run Tryz.prog w = .ok (goInt n) (w.setRow g (Hd.arr (Hd.ovl l o s))) := by
  subst hn
  obtain ⟨b, off, rfl, hc⟩ := hB.at (k := 0) h0
  have hl : (Lib.byteCells s).length = s.length := Lib.byteCells_length s
  have hrun := run_copy_row Tryz.prog w 24 24 ty 5 g o m cap ⟨b, off, none⟩ s.length cb (Hd.arr l) 84 (Lib.byteCells s) Tryz.underlying24 u8_one hg (by rw [hl]; exact (Nat.min_eq_left hm).symm) (by rw [← Hd.cells_row]; exact rowat_news hB) (by rw [hl, Hd.arr_size]; omega) (Lib.byteCells_one s)
  rw [hl, Hd.arr_ovl] at hrun
  exact hrun
theorem run_copy_txt {w : World} {g o : Nat} {l : Hd.B} (m cap : Nat) (ty : TypeId) (s : ByteArray) (hg : ArrAt w g l) (ho : o + s.size ≤ l.length) (hm : s.size ≤ m) :
    (Builtin.copy_ #[24, 9] ty #[.slice (some ⟨g, o, none⟩) m cap, .string s]).run Tryz.prog w = .ok (goInt s.size) (w.setRow g (Hd.arr (Hd.ovl l o s.toList))) := by
  have hrun := Lib.run_copy_row_string (P := Tryz.prog) w 24 9 ty 5 g o m cap s (Hd.arr l) 84 Tryz.underlying24 u8_one hg hm (by rw [Hd.arr_size]; omega)
  have e := Hd.arr_ovl l o s.toList
  rw [Hd.size_toList, ByteArray.toList_eq] at e
  rw [e] at hrun
  rw [ByteArray.toList_eq]
  exact hrun
theorem arr_set {w : World} {g : Nat} {l : Hd.B} (h : ArrAt w g l) (m : Hd.B) : ArrAt (w.setRow g (Hd.arr m)) g m := setRow_heap w g _ _ _ _ h
theorem bx_set {S : Nat → Prop} (w : World) (g : Nat) (a : Array Value) (h : S g) : Bx S w (w.setRow g a) :=
  ⟨rfl, rfl, rfl, by simp [World.setRow], fun k _ hk => setRow_other w g k _ (fun e => hk (by rw [e]; exact h))⟩

set_option maxRecDepth 100000 in
theorem hsum_any (l : Hd.B) (hl : l.length = 512) (w : World) :
    Calls Tryz.prog 65 #[.agg (Hd.arr l)] w fun e w' => e = .returned (.int .i64 ((Hd.sumB l : Nat) : Int)) ∧ Bw w w' := by
  have hi := info_raw hl
  have hix : Hid (∀ (w : World) (k : Nat), k < 512 → (Instr.index 84 (.agg (Hd.arr l)) (.int .i64 (k : Int))).run Tryz.prog w = .ok (.int .u8 (Hd.rowF l k)) w) := fun w k hk => index_raw w hl hk
  have hend := Hd.sumTo_all hl
  have HE : Hid (Hd.sumTo l 512 = Hd.sumB l) := hend
  obtain ⟨A, hA⟩ : ∃ A, Hid (A = Hd.arr l) := ⟨_, rfl⟩
  rw [← hA.out] at hi hix ⊢
  clear hend
  go_enter Tryz.func65, Tryz.ntmps65
  go_wp2_with (refine wpList_load_row rfl 84 _ rfl w.heap.size rfl 84 A (0, 0) _ (heap_alloc_new _ _) Tryz.underlying84 rfl hi ?_)
  obtain ⟨W, hW⟩ : ∃ W, W = w.alloc (.cells A 84) := ⟨_, rfl⟩
  have hbw : Bw w W := by rw [hW]; exact (Below.refl _ _).alloc (Nat.le_refl _) _
  rw [← hW]
  clear hW
  go_loop [3, 7] (fun t i => ∃ (k u : Nat), k ≤ 512 ∧ i = .int .i64 (k : Int) ∧ t = .int .i64 (u : Int) ∧ Hid (u = Hd.sumTo l k) ∧ u ≤ 130560) (fun _ i => 512 - (intOf i).toNat)
  case atStart => exact ⟨0, 0, Nat.zero_le _, rfl, rfl, rfl, Nat.zero_le _⟩
  case round =>
    obtain ⟨k, u, hk, rfl, rfl, hu, hub⟩ := hrel
    have k0 : (0 : Int) ≤ (k : Int) := Int.natCast_nonneg _
    by_cases hlt : k < 512
    · have h1 := hix.out W k hlt
      obtain ⟨b0, b1⟩ := Hd.rowF_bd l k
      have t1 : (k : Int) < 512 := by omega
      by_cases hm : 148 ≤ k ∧ k < 156
      · have m1 : (148 : Int) ≤ (k : Int) := by omega
        have m2 : (k : Int) < 156 := by omega
        have hs : Hid (u + 32 = Hd.sumTo l (k + 1)) := by show _ = _; rw [hu.out]; unfold Hd.sumTo; rw [if_pos hm]; cases k <;> rfl
        have hs2 := Hd.sumTo_bd l (k + 1)
        rw [← hs.out] at hs2
        go_wp2
        go_round
        case rel => exact ⟨k + 1, u + 32, by omega, by go_num, by go_num, hs.out, by omega⟩
        case measure => simp [intOf]; omega
      · obtain ⟨z, hz⟩ : ∃ z : Nat, Hid (Hd.rowF l k = (z : Int)) := ⟨(Hd.rowF l k).toNat, by show _ = _; omega⟩
        have hs : Hid (u + z = Hd.sumTo l (k + 1)) := by
          show _ = _
          have e : (l.getD k 0).toNat = z := by have := hz.out; unfold Hd.rowF at this; omega
          rw [hu.out]; unfold Hd.sumTo; rw [if_neg hm, e]; cases k <;> rfl
        have hs2 := Hd.sumTo_bd l (k + 1)
        rw [← hs.out] at hs2
        rw [hz.out] at h1 b0 b1
        rcases Nat.lt_or_ge k 148 with hlo | hlo
        · have m1 : ¬ (148 : Int) ≤ (k : Int) := by omega
          go_wp2
          go_round
          case rel => exact ⟨k + 1, u + z, by omega, by go_num, by go_num, hs.out, by omega⟩
          case measure => simp [intOf]; omega
        · have m1 : (148 : Int) ≤ (k : Int) := by omega
          have m2 : ¬ (k : Int) < 156 := by omega
          go_wp2
          go_round
          case rel => exact ⟨k + 1, u + z, by omega, by go_num, by go_num, hs.out, by omega⟩
          case measure => simp [intOf]; omega
    · have ek : k = 512 := by omega
      subst ek
      go_wp2
      go_ret
      exact ⟨ret_int (by rw [hu.out, HE.out]), hbw⟩
theorem hform_any (n : Int) (W : Nat) (hn : n ≤ 9223372036854775807) (h : Oct.Has n (W : Int)) (w : World) : Calls Tryz.prog 64 #[.int .i64 n, .int .i64 (W : Int)] w fun e w' =>
    ∃ g, e = .returned (.slice (some ⟨g, 0, none⟩) W W) ∧ RowAt w' (some ⟨g, 0, none⟩) W (Hd.rowF (Hd.numB n.toNat W)) ∧ Bw w w' := by
  go_enter Tryz.func64, Tryz.ntmps64
  go_wp2_with (go_at_call 88; refine (oput_yes n W hn h _).mono ?_; rintro e w1 ⟨g, rfl, ho, hg, hw1⟩)
  go_ret
  have hr := ho.row (Oct.formF_bd _ _)
  refine ⟨g, rfl, ⟨?_, Hd.rowF_bd _⟩, hw1⟩
  rcases hr.1 with h0 | ⟨b, off, hA, hc⟩
  · exact Or.inl h0
  · exact Or.inr ⟨b, off, hA, fun i hi => by rw [hc i hi, Hd.rowF_num hi]⟩
end Go.Proofs.YtldkhbkgmiicbaaGreatDoor

/- The program's own Sum, Seal, Blank, Put and Full, as landed at e169a841. -/
import Derived.Test.YtkoacehgfmflmabJ6
import Derived.Test.YtkoacehgfmflmabJ4
namespace Go.Proofs.Ytkoacehgfmflmab
open Go.RowKit Go.Deep
set_option linter.unusedVariables false
set_option linter.unusedSimpArgs false

/-- an array as an answer: a row of 512 -/
structure NewArr (w w' : World) (g : Nat) (l : Hd.B) : Prop where
  arr : ArrAt w' g l
  new : w.heap.size ≤ g
theorem ret_two {a b : Value} {k : IntKind} {x y : Int} (h : x = y) : Ending.returned (.tuple #[a, .int k x]) = .returned (.tuple #[a, .int k y]) := by rw [h]
set_option maxRecDepth 100000 in
theorem hSum_any (A : Option Addr) (n ca : Nat) (l : Hd.B) (hl : l.length = n) (w : World) (hr : RowAt w A n (Hd.rowF l)) : Calls Try.prog 11 #[.slice A n ca] w fun e w' =>
    (n ≠ 512 → e = .returned (.tuple #[.int .i64 0, .int .i64 1])) ∧ (n = 512 → e = .returned (.tuple #[.int .i64 ((Hd.sumB l : Nat) : Int), .int .i64 0])) ∧ Bw w w' := by
  have hz := zero_raw
  have hzs : Hid ((Hd.arr Hd.zeros).size = 512) := by show _ = _; rw [Hd.arr_size, zeros_len]
  have hz1 := Hd.arr_one Hd.zeros
  have hiz := info_raw zeros_len
  obtain ⟨Z, hZ⟩ : ∃ Z, Hid (Z = Hd.arr Hd.zeros) := ⟨_, rfl⟩
  rw [← hZ.out] at hz hzs hz1 hiz
  have HZ1 : Hid (Z.all (·.oneCell') = true) := hz1
  clear hz1
  by_cases hn : n = 512
  · subst hn
    have HL : Hid (l.length = 512) := hl
    have hi := info_raw hl
    have HS : Hid (Z.size = (Hd.arr l).size) := by show _ = _; rw [hzs.out, Hd.arr_size, HL.out]
    clear hl
    go_enter Try.func11, Try.ntmps11
    go_wp2_with (first
      | (go_at_call 16; refine (htaken_yes A ca l HL.out _ hr).mono ?_; rintro e w1 ⟨rfl, hw1⟩)
      | (refine wpList_store_row rfl 42 _ _ rfl w1.heap.size (Hd.arr l) rfl rfl 42 Z (heap_alloc_new _ _) hi HS.out (Hd.arr_one _) ?_; rw [setRow_alloc_new]; obtain ⟨W2, hW2⟩ : ∃ V, V = w1.alloc (.cells (Hd.arr l) 42) := ⟨_, rfl⟩; have hA2 : ArrAt W2 w1.heap.size l := (by rw [hW2]; exact arr_new _ _); have hb2 : Bw w W2 := (by rw [hW2]; exact bw_alloc7 hw1 _); rw [← hW2]; clear hW2)
      | refine wpList_load_row rfl 42 _ rfl w1.heap.size rfl 42 (Hd.arr l) (0, 0) _ hA2 Try.underlying42 rfl hi ?_
      | (go_at_call 19; refine (hsum_any l HL.out _).mono ?_; rintro e w3 ⟨rfl, hw3⟩))
    go_ret2
    exact ⟨fun h => absurd rfl h, fun _ => rfl, hb2.trans hw3⟩
  · have HN : Hid (n ≠ 512) := hn
    clear hn
    go_enter Try.func11, Try.ntmps11
    go_wp2_with (first
      | (go_at_call 16; refine (htaken_no A n ca HN.out _).mono ?_; rintro e w1 ⟨rfl, hw1⟩; rw [← hZ.out])
      | (refine wpList_store_row rfl 42 _ _ rfl w1.heap.size Z rfl rfl 42 Z (heap_alloc_new _ _) hiz rfl HZ1.out ?_; rw [setRow_alloc_new]))
    go_ret2
    exact ⟨fun _ => rfl, fun h => absurd h HN.out, bw_alloc7 hw1 _⟩
set_option maxRecDepth 100000 in
theorem hSeal_any (A : Option Addr) (n ca : Nat) (l : Hd.B) (hl : l.length = n) (w : World) (hr : RowAt w A n (Hd.rowF l)) : Calls Try.prog 7 #[.slice A n ca] w fun e w' =>
    (n ≠ 512 → e = .returned (.tuple #[.slice none 0 0, .int .i64 1])) ∧ (n = 512 → ∃ g, e = .returned (.tuple #[.slice (some ⟨g, 0, none⟩) 512 512, .int .i64 0]) ∧ NewArr w w' g (Hd.sealB l)) ∧ Bw w w' := by
  have hz := zero_raw
  have hzs : Hid ((Hd.arr Hd.zeros).size = 512) := by show _ = _; rw [Hd.arr_size, zeros_len]
  have hz1 := Hd.arr_one Hd.zeros
  have hiz := info_raw zeros_len
  obtain ⟨Z, hZ⟩ : ∃ Z, Hid (Z = Hd.arr Hd.zeros) := ⟨_, rfl⟩
  rw [← hZ.out] at hz hzs hz1 hiz
  have HZ1 : Hid (Z.all (·.oneCell') = true) := hz1
  clear hz1
  by_cases hn : n = 512
  · subst hn
    have HL : Hid (l.length = 512) := hl
    have hi := info_raw hl
    have HS : Hid (Z.size = (Hd.arr l).size) := by show _ = _; rw [hzs.out, Hd.arr_size, HL.out]
    have hl4 : (Hd.sealB l).length = 512 := by rw [Hd.seal_len (by rw [hl]; omega), hl]
    have hi4 := info_raw hl4
    have HS4 : Hid ((Hd.arr l).size = (Hd.arr (Hd.sealB l)).size) := by show _ = _; rw [Hd.arr_size, Hd.arr_size, hl4, hl]
    clear hl hl4
    go_enter Try.func7, Try.ntmps7
    go_wp2_with (first
      | (go_at_call 16; refine (htaken_yes A ca l HL.out _ hr).mono ?_; rintro e w1 ⟨rfl, hw1⟩)
      | (refine wpList_store_row rfl 42 _ _ rfl w1.heap.size (Hd.arr l) rfl rfl 42 Z (heap_alloc_new _ _) hi HS.out (Hd.arr_one _) ?_; rw [setRow_alloc_new]; obtain ⟨W2, hW2⟩ : ∃ V, V = w1.alloc (.cells (Hd.arr l) 42) := ⟨_, rfl⟩; have hA2 : ArrAt W2 w1.heap.size l := (by rw [hW2]; exact arr_new _ _); have hb2 : Bw w W2 := (by rw [hW2]; exact bw_alloc7 hw1 _); rw [← hW2]; clear hW2)
      | refine wpList_load_row rfl 42 _ rfl w1.heap.size rfl 42 (Hd.arr l) (0, 0) _ hA2 Try.underlying42 rfl hi ?_
      | (go_at_call 17; refine (hsealed_any l HL.out _).mono ?_; rintro e w3 ⟨rfl, hw3⟩; have hA3 := hA2.keep hw3)
      | (refine wpList_store_row rfl 42 _ _ rfl w1.heap.size (Hd.arr (Hd.sealB l)) rfl rfl 42 (Hd.arr l) hA3 hi4 HS4.out (Hd.arr_one _) ?_))
    go_ret2
    refine ⟨fun h => absurd rfl h, fun _ => ⟨w1.heap.size, rfl, arr_set hA3 _, hw1.size⟩, bw_of_bx (hb2.trans hw3) (bx_set _ w1.heap.size _ rfl) (fun k e => by have := hw1.size; omega)⟩
  · have HN : Hid (n ≠ 512) := hn
    clear hn
    go_enter Try.func7, Try.ntmps7
    go_wp2_with (first
      | (go_at_call 16; refine (htaken_no A n ca HN.out _).mono ?_; rintro e w1 ⟨rfl, hw1⟩; rw [← hZ.out])
      | (refine wpList_store_row rfl 42 _ _ rfl w1.heap.size Z rfl rfl 42 Z (heap_alloc_new _ _) hiz rfl HZ1.out ?_; rw [setRow_alloc_new]))
    go_ret2
    exact ⟨fun _ => rfl, fun h => absurd h HN.out, bw_alloc7 hw1 _⟩
end Go.Proofs.Ytkoacehgfmflmab

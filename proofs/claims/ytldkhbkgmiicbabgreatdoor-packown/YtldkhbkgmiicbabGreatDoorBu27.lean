/- Texts of mine, put together. -/
import Derived.Test.YtldkhbkgmiicbabGreatDoorBu20
import Derived.Shelf.Bytes.SlCut
import Derived.Test.YtldkhbkgmiicbabGreatDoorProg

/- The program's own laid, as landed at e169a841 (written by mklaid10.py). -/
namespace Go.Proofs.YtldkhbkgmiicbabGreatDoor
open Go.RowKit Go.Deep
set_option linter.unusedVariables false
set_option linter.unusedSimpArgs false

/-- a head's struct in a block -/
abbrev HdAt (w : World) (g : Nat) (n p : ByteArray) (m s t : Int) (c : Nat) (k : ByteArray) : Prop := w.heap[g]? = some (.cells #[.string n, .string p, .int .i64 m, .int .i64 s, .int .i64 t, .int .u8 (c : Int), .string k] 75 (0, 0))
/-- a world within laid: the struct, the answer's room, the array -/
structure Lai (w W : World) (n p : ByteArray) (m s t : Int) (c : Nat) (k : ByteArray) (Z : Array Value) (l : Hd.B) : Prop where
  head : HdAt W w.heap.size n p m s t c k
  room : W.heap[w.heap.size + 1]? = some (.cells Z 112 (0, 0))
  arr : ArrAt W (w.heap.size + 1 + 1) l
  bw : Bw w W
theorem Lai.keep {w W W' : World} {n p : ByteArray} {m s t : Int} {c : Nat} {k : ByteArray} {Z : Array Value} {l : Hd.B} (h : Lai w W n p m s t c k Z l) (b : Bw W W') : Lai w W' n p m s t c k Z l :=
  ⟨(b.block _ (Array.getElem?_eq_some_iff.1 h.head).1).trans h.head, (b.block _ (Array.getElem?_eq_some_iff.1 h.room).1).trans h.room, h.arr.keep b, h.bw.trans b⟩
theorem Lai.put {w W W' : World} {n p : ByteArray} {m s t : Int} {c : Nat} {k : ByteArray} {Z : Array Value} {l l' : Hd.B} (h : Lai w W n p m s t c k Z l) (a : ArrAt W' (w.heap.size + 1 + 1) l') (b : Bx (· = w.heap.size + 1 + 1) W W') : Lai w W' n p m s t c k Z l' :=
  ⟨(b.block _ (Array.getElem?_eq_some_iff.1 h.head).1 (by omega)).trans h.head, (b.block _ (Array.getElem?_eq_some_iff.1 h.room).1 (by omega)).trans h.room, a, bw_of_bx h.bw b (fun g e => by omega)⟩
theorem Lai.cell {w W : World} {n p : ByteArray} {m s t : Int} {c : Nat} {k : ByteArray} {Z : Array Value} {l : Hd.B} (h : Lai w W n p m s t c k Z l) (i : Nat) : W.cell? ⟨w.heap.size, i, none⟩ = (#[.string n, .string p, .int .i64 m, .int .i64 s, .int .i64 t, .int .u8 (c : Int), .string k] : Array Value)[i]? := cell_of_row W w.heap.size i _ _ _ h.head
theorem Hd.has_of {n : Int} {W : Nat} (h1 : 2 ≤ W) (h2 : W ≤ 12) (h0 : 0 ≤ n) (h : n.toNat < 8 ^ (W - 1) ∨ n.toNat < 256 ^ (W - 1)) : Oct.Has n (W : Int) := ⟨by omega, by omega, h0, by rw [Int.toNat_natCast]; exact h⟩

set_option maxRecDepth 100000 in
set_option maxHeartbeats 8000000 in
theorem hlaid_x (n p k : ByteArray) (mode size time : Int) (c : UInt8) (hn : n.size ≤ 100) (hk : k.size ≤ 100) (hp : p.size ≤ 155) (hm : 0 ≤ mode ∧ mode ≤ 4095) (hs : 0 ≤ size ∧ size ≤ 8589934591) (ht : 0 ≤ time ∧ time ≤ 1099511627776)
    (w : World) : Calls Tryz.prog 64 #[.agg #[.string n, .string p, .int .i64 mode, .int .i64 size, .int .i64 time, .int .u8 ((c.toNat : Nat) : Int), .string k]] w fun e w' =>
      e = .returned (.agg (Hd.arr (Hd.sealB (Hd.layP ⟨n.toList, mode, size, time, c, k.toList, p.toList⟩)))) ∧ Bw w w' := by
  have hz := zero_raw
  obtain ⟨Z, hZ⟩ : ∃ Z, Hid (Z = Hd.arr Hd.zeros) := ⟨_, rfl⟩
  have hZs : Hid (Z.size = 512) := by show _ = _; rw [hZ.out, Hd.arr_size]; rfl
  rw [← hZ.out] at hz
  have HM : Hid (Oct.Has mode ((8 : Nat) : Int)) := Hd.has_of (by decide) (by decide) hm.1 (.inl (by show _ < 2097152; omega))
  have HS : Hid (Oct.Has size ((12 : Nat) : Int)) := Hd.has_of (by decide) (by decide) hs.1 (.inl (by show _ < 8589934592; omega))
  have HT : Hid (Oct.Has time ((12 : Nat) : Int)) := Hd.has_of (by decide) (by decide) ht.1 (.inr (by show _ < 309485009821345068724781056; omega))
  have H0 : Hid (Oct.Has 0 ((8 : Nat) : Int)) := Hd.has_of (by decide) (by decide) (by decide) (.inl (by decide))
  have bm : mode ≤ 9223372036854775807 := by omega
  have bs : size ≤ 9223372036854775807 := by omega
  have bt : time ≤ 9223372036854775807 := by omega
  have HN : Hid (n.size ≤ 100) := hn
  have HK : Hid (k.size ≤ 100) := hk
  have HP : Hid (p.size ≤ 155) := hp
  clear hm hs ht hn hk hp
  obtain ⟨L0, hL0⟩ : ∃ L, Hid (L = Hd.zeros) := ⟨_, rfl⟩
  have l0 : Hid (L0.length = 512) := by show _ = _; rw [hL0.out]; rfl
  obtain ⟨L1, hL1⟩ : ∃ L, Hid (L = Hd.ovl L0 0 n.toList) := ⟨_, rfl⟩
  have l1 : Hid (L1.length = 512) := by show _ = _; rw [hL1.out, Hd.ovl_len (by rw [l0.out]; rw [Hd.size_toList]; have := HN.out; omega), l0.out]
  obtain ⟨L2, hL2⟩ : ∃ L, Hid (L = Hd.ovl L1 100 (Hd.numB mode.toNat 8)) := ⟨_, rfl⟩
  have l2 : Hid (L2.length = 512) := by show _ = _; rw [hL2.out, Hd.ovl_len (by rw [l1.out]; rw [Hd.numB_len]; omega), l1.out]
  obtain ⟨L3, hL3⟩ : ∃ L, Hid (L = Hd.ovl L2 108 (Hd.numB (0 : Int).toNat 8)) := ⟨_, rfl⟩
  have l3 : Hid (L3.length = 512) := by show _ = _; rw [hL3.out, Hd.ovl_len (by rw [l2.out]; rw [Hd.numB_len]; omega), l2.out]
  obtain ⟨L4, hL4⟩ : ∃ L, Hid (L = Hd.ovl L3 116 (Hd.numB (0 : Int).toNat 8)) := ⟨_, rfl⟩
  have l4 : Hid (L4.length = 512) := by show _ = _; rw [hL4.out, Hd.ovl_len (by rw [l3.out]; rw [Hd.numB_len]; omega), l3.out]
  obtain ⟨L5, hL5⟩ : ∃ L, Hid (L = Hd.ovl L4 124 (Hd.numB size.toNat 12)) := ⟨_, rfl⟩
  have l5 : Hid (L5.length = 512) := by show _ = _; rw [hL5.out, Hd.ovl_len (by rw [l4.out]; rw [Hd.numB_len]; omega), l4.out]
  obtain ⟨L6, hL6⟩ : ∃ L, Hid (L = Hd.ovl L5 136 (Hd.numB time.toNat 12)) := ⟨_, rfl⟩
  have l6 : Hid (L6.length = 512) := by show _ = _; rw [hL6.out, Hd.ovl_len (by rw [l5.out]; rw [Hd.numB_len]; omega), l5.out]
  obtain ⟨L7, hL7⟩ : ∃ L, Hid (L = Hd.ovl L6 156 [c]) := ⟨_, rfl⟩
  have l7 : Hid (L7.length = 512) := by show _ = _; rw [hL7.out, Hd.ovl_len (by rw [l6.out]; show 156 + 1 ≤ 512; omega), l6.out]
  obtain ⟨L8, hL8⟩ : ∃ L, Hid (L = Hd.ovl L7 157 k.toList) := ⟨_, rfl⟩
  have l8 : Hid (L8.length = 512) := by show _ = _; rw [hL8.out, Hd.ovl_len (by rw [l7.out]; rw [Hd.size_toList]; have := HK.out; omega), l7.out]
  obtain ⟨L9, hL9⟩ : ∃ L, Hid (L = Hd.ovl L8 257 Hd.ustar) := ⟨_, rfl⟩
  have l9 : Hid (L9.length = 512) := by show _ = _; rw [hL9.out, Hd.ovl_len (by rw [l8.out]; show 257 + 8 ≤ 512; omega), l8.out]
  obtain ⟨L10, hL10⟩ : ∃ L, Hid (L = Hd.ovl L9 329 (Hd.numB (0 : Int).toNat 8)) := ⟨_, rfl⟩
  have l10 : Hid (L10.length = 512) := by show _ = _; rw [hL10.out, Hd.ovl_len (by rw [l9.out]; rw [Hd.numB_len]; omega), l9.out]
  obtain ⟨L11, hL11⟩ : ∃ L, Hid (L = Hd.ovl L10 337 (Hd.numB (0 : Int).toNat 8)) := ⟨_, rfl⟩
  have l11 : Hid (L11.length = 512) := by show _ = _; rw [hL11.out, Hd.ovl_len (by rw [l10.out]; rw [Hd.numB_len]; omega), l10.out]
  obtain ⟨L12, hL12⟩ : ∃ L, Hid (L = Hd.ovl L11 345 p.toList) := ⟨_, rfl⟩
  have l12 : Hid (L12.length = 512) := by show _ = _; rw [hL12.out, Hd.ovl_len (by rw [l11.out]; rw [Hd.size_toList]; have := HP.out; omega), l11.out]
  have HE : Hid (L12 = Hd.layP ⟨n.toList, mode, size, time, c, k.toList, p.toList⟩) := by
    show _ = _
    rw [hL12.out, hL11.out, hL10.out, hL9.out, hL8.out, hL7.out, hL6.out, hL5.out, hL4.out, hL3.out, hL2.out, hL1.out, hL0.out]
    rfl
  obtain ⟨W0, hW0⟩ : ∃ W0, W0 = ((w.alloc (.cells #[.string n, .string p, .int .i64 mode, .int .i64 size, .int .i64 time, .int .u8 ((c.toNat : Nat) : Int), .string k] 75)).alloc (.cells Z 112)).alloc (.cells Z 112) := ⟨_, rfl⟩
  have h0 : Lai w W0 n p mode size time c.toNat k Z L0 := by
    rw [hW0, hL0.out]
    have hal : ∀ (W : World) (o : Obj), Bw W (W.alloc o) := fun W o => bw_alloc7 (Bw.refl _) o
    have hh : ∀ (W : World) (o : Obj), (W.alloc o).heap[W.heap.size]? = some o := fun W o => heap_alloc_new _ _
    refine ⟨?_, ?_, ?_, ((hal _ _).trans (hal _ _)).trans (hal _ _)⟩
    · exact ((hal _ _).block _ (by rw [size_alloc, size_alloc]; omega)).trans (heap_alloc2_old _ _ _)
    · exact ((hal _ _).block _ (by rw [size_alloc, size_alloc]; omega)).trans (heap_alloc2_new _ _ _)
    · have := hh ((w.alloc (.cells #[.string n, .string p, .int .i64 mode, .int .i64 size, .int .i64 time, .int .u8 ((c.toNat : Nat) : Int), .string k] 75)).alloc (.cells Z 112)) (.cells Z 112)
      rw [size_alloc, size_alloc, hZ.out] at this
      rw [hZ.out]
      exact this
  go_enter Tryz.func64, Tryz.ntmps64
  go_wp2
  rw [← hW0]
  clear hW0 hz
  have hdr0 : Bw W0 W0.drew := (Below.refl _ _).drew
  refine wp_region_any (by kernel_rfl) ?_
  change wpAny _ _ _ _ _ _ _ (World.drew _)
  have c0 : W0.drew.cell? ⟨w.heap.size, 0, none⟩ = some (.string n) := (h0.keep hdr0).cell 0
  refine wpAny_take (i := 0) (v := ?_) rfl (by kernel_rfl) (by kernel_rfl) (by kernel_rfl) (fun _ _ _ h => h) (Or.inl ⟨by rfl, ?_⟩) ?_
  rotate_left
  · intro w; go_simp; all_goals (with_reducible rfl)
  try simp only [Act.put, List.setIfInBounds_toArray, List.set_cons_zero, List.set_cons_succ, List.getElem_toArray, List.getElem_cons_succ, List.getElem_cons_zero]
  refine wpAny_take (i := 1) (v := ?_) rfl (by kernel_rfl) (by kernel_rfl) (by kernel_rfl) (fun _ _ _ h => h) (Or.inl ⟨by rfl, ?_⟩) ?_
  rotate_left
  · intro w; go_simp; all_goals (with_reducible rfl)
  try simp only [Act.put, List.setIfInBounds_toArray, List.set_cons_zero, List.set_cons_succ, List.getElem_toArray, List.getElem_cons_succ, List.getElem_cons_zero]
  refine wpAny_ready (rs := [2]) (by kernel_rfl) (by simp) ?_
  refine AllReady.cons rfl (fun K hK => ?_) AllReady.nil
  go_simp
  refine hK _ _ ?_
  clear hK K
  try simp only [Act.put, List.setIfInBounds_toArray, List.set_cons_zero, List.set_cons_succ, List.getElem_toArray, List.getElem_cons_succ, List.getElem_cons_zero]
  refine wpAny_ready (rs := [3]) (by kernel_rfl) (by simp) ?_
  refine AllReady.cons rfl (fun K hK => ?_) AllReady.nil
  refine step_copy_txt (by rfl) _ _ (by rfl) (w.heap.size + 1 + 1) 0 _ _ L0 n (by rfl) (by rfl) (.inl (h0.keep hdr0).arr) (by rw [l0.out]; have := HN.out; omega) (by have := HN.out; omega) ?_
  rw [← hL1.out]
  intro W1 ha1 hx1
  refine hK _ _ ?_
  clear hK K
  try simp only [Act.put, List.setIfInBounds_toArray, List.set_cons_zero, List.set_cons_succ, List.getElem_toArray, List.getElem_cons_succ, List.getElem_cons_zero]
  refine wpAny_done (by kernel_rfl) ?_ _
  have h1 := (h0.keep hdr0).put ha1 hx1
  clear h0 hdr0 c0 ha1 hx1 hL1
  go_wp2
  have hdr1 : Bw W1 W1.drew := (Below.refl _ _).drew
  refine wp_region_any (by kernel_rfl) ?_
  change wpAny _ _ _ _ _ _ _ (World.drew _)
  have c1 : W1.drew.cell? ⟨w.heap.size, 2, none⟩ = some (.int .i64 mode) := (h1.keep hdr1).cell 2
  refine wpAny_take (i := 0) (v := ?_) rfl (by kernel_rfl) (by kernel_rfl) (by kernel_rfl) (fun _ _ _ h => h) (Or.inl ⟨by rfl, ?_⟩) ?_
  rotate_left
  · intro w; go_simp; all_goals (with_reducible rfl)
  try simp only [Act.put, List.setIfInBounds_toArray, List.set_cons_zero, List.set_cons_succ, List.getElem_toArray, List.getElem_cons_succ, List.getElem_cons_zero]
  refine wpAny_take (i := 1) (v := ?_) rfl (by kernel_rfl) (by kernel_rfl) (by kernel_rfl) (fun _ _ _ h => h) (Or.inl ⟨by rfl, ?_⟩) ?_
  rotate_left
  · intro w; go_simp; all_goals (with_reducible rfl)
  try simp only [Act.put, List.setIfInBounds_toArray, List.set_cons_zero, List.set_cons_succ, List.getElem_toArray, List.getElem_cons_succ, List.getElem_cons_zero]
  refine wpAny_ready (rs := [2]) (by kernel_rfl) (by simp) ?_
  refine AllReady.cons rfl (fun K hK => ?_) AllReady.nil
  go_simp
  refine hK _ _ ?_
  clear hK K
  try simp only [Act.put, List.setIfInBounds_toArray, List.set_cons_zero, List.set_cons_succ, List.getElem_toArray, List.getElem_cons_succ, List.getElem_cons_zero]
  refine wpAny_ready (rs := [3]) (by kernel_rfl) (by simp) ?_
  refine AllReady.cons rfl (fun K hK => ?_) AllReady.nil
  go_simp
  refine (hform_any mode 8 bm HM.out _).mono ?_
  rintro e V2 ⟨g2, rfl, hr2, hv2⟩
  refine hK _ _ ?_
  clear hK K
  try simp only [Act.put, List.setIfInBounds_toArray, List.set_cons_zero, List.set_cons_succ, List.getElem_toArray, List.getElem_cons_succ, List.getElem_cons_zero]
  refine wpAny_ready (rs := [4]) (by kernel_rfl) (by simp) ?_
  refine AllReady.cons rfl (fun K hK => ?_) AllReady.nil
  refine step_copy_arr (by rfl) _ _ (by rfl) (w.heap.size + 1 + 1) 100 8 _ _ _ L1 (Hd.numB (mode : Int).toNat 8) _ (by rfl) (by rfl) (.inl ((h1.keep hdr1).keep hv2).arr) (Hd.numB_len _ _) (by rw [l1.out]; omega) (by omega) (by omega) hr2 ?_
  rw [← hL2.out]
  intro W2 ha2 hx2
  refine hK _ _ ?_
  clear hK K
  try simp only [Act.put, List.setIfInBounds_toArray, List.set_cons_zero, List.set_cons_succ, List.getElem_toArray, List.getElem_cons_succ, List.getElem_cons_zero]
  refine wpAny_done (by kernel_rfl) ?_ _
  have h2 := ((h1.keep hdr1).keep hv2).put ha2 hx2
  clear h1 hdr1 c1 ha2 hx2 hL2 hr2 hv2
  clear V2
  go_wp2
  have hdr2 : Bw W2 W2.drew := (Below.refl _ _).drew
  refine wp_region_any (by kernel_rfl) ?_
  change wpAny _ _ _ _ _ _ _ (World.drew _)
  refine wpAny_take (i := 0) (v := ?_) rfl (by kernel_rfl) (by kernel_rfl) (by kernel_rfl) (fun _ _ _ h => h) (Or.inl ⟨by rfl, ?_⟩) ?_
  rotate_left
  · intro w; go_simp; all_goals (with_reducible rfl)
  try simp only [Act.put, List.setIfInBounds_toArray, List.set_cons_zero, List.set_cons_succ, List.getElem_toArray, List.getElem_cons_succ, List.getElem_cons_zero]
  refine wpAny_ready (rs := [1]) (by kernel_rfl) (by simp) ?_
  refine AllReady.cons rfl (fun K hK => ?_) AllReady.nil
  go_simp
  refine (hform_any 0 8 (by decide) H0.out _).mono ?_
  rintro e V3 ⟨g3, rfl, hr3, hv3⟩
  refine hK _ _ ?_
  clear hK K
  try simp only [Act.put, List.setIfInBounds_toArray, List.set_cons_zero, List.set_cons_succ, List.getElem_toArray, List.getElem_cons_succ, List.getElem_cons_zero]
  refine wpAny_ready (rs := [2]) (by kernel_rfl) (by simp) ?_
  refine AllReady.cons rfl (fun K hK => ?_) AllReady.nil
  refine step_copy_arr (by rfl) _ _ (by rfl) (w.heap.size + 1 + 1) 108 8 _ _ _ L2 (Hd.numB (0 : Int).toNat 8) _ (by rfl) (by rfl) (.inl ((h2.keep hdr2).keep hv3).arr) (Hd.numB_len _ _) (by rw [l2.out]; omega) (by omega) (by omega) hr3 ?_
  rw [← hL3.out]
  intro W3 ha3 hx3
  refine hK _ _ ?_
  clear hK K
  try simp only [Act.put, List.setIfInBounds_toArray, List.set_cons_zero, List.set_cons_succ, List.getElem_toArray, List.getElem_cons_succ, List.getElem_cons_zero]
  refine wpAny_done (by kernel_rfl) ?_ _
  have h3 := ((h2.keep hdr2).keep hv3).put ha3 hx3
  clear h2 hdr2 ha3 hx3 hL3 hr3 hv3
  clear V3
  go_wp2
  have hdr3 : Bw W3 W3.drew := (Below.refl _ _).drew
  refine wp_region_any (by kernel_rfl) ?_
  change wpAny _ _ _ _ _ _ _ (World.drew _)
  refine wpAny_take (i := 0) (v := ?_) rfl (by kernel_rfl) (by kernel_rfl) (by kernel_rfl) (fun _ _ _ h => h) (Or.inl ⟨by rfl, ?_⟩) ?_
  rotate_left
  · intro w; go_simp; all_goals (with_reducible rfl)
  try simp only [Act.put, List.setIfInBounds_toArray, List.set_cons_zero, List.set_cons_succ, List.getElem_toArray, List.getElem_cons_succ, List.getElem_cons_zero]
  refine wpAny_ready (rs := [1]) (by kernel_rfl) (by simp) ?_
  refine AllReady.cons rfl (fun K hK => ?_) AllReady.nil
  go_simp
  refine (hform_any 0 8 (by decide) H0.out _).mono ?_
  rintro e V4 ⟨g4, rfl, hr4, hv4⟩
  refine hK _ _ ?_
  clear hK K
  try simp only [Act.put, List.setIfInBounds_toArray, List.set_cons_zero, List.set_cons_succ, List.getElem_toArray, List.getElem_cons_succ, List.getElem_cons_zero]
  refine wpAny_ready (rs := [2]) (by kernel_rfl) (by simp) ?_
  refine AllReady.cons rfl (fun K hK => ?_) AllReady.nil
  refine step_copy_arr (by rfl) _ _ (by rfl) (w.heap.size + 1 + 1) 116 8 _ _ _ L3 (Hd.numB (0 : Int).toNat 8) _ (by rfl) (by rfl) (.inl ((h3.keep hdr3).keep hv4).arr) (Hd.numB_len _ _) (by rw [l3.out]; omega) (by omega) (by omega) hr4 ?_
  rw [← hL4.out]
  intro W4 ha4 hx4
  refine hK _ _ ?_
  clear hK K
  try simp only [Act.put, List.setIfInBounds_toArray, List.set_cons_zero, List.set_cons_succ, List.getElem_toArray, List.getElem_cons_succ, List.getElem_cons_zero]
  refine wpAny_done (by kernel_rfl) ?_ _
  have h4 := ((h3.keep hdr3).keep hv4).put ha4 hx4
  clear h3 hdr3 ha4 hx4 hL4 hr4 hv4
  clear V4
  go_wp2
  have hdr4 : Bw W4 W4.drew := (Below.refl _ _).drew
  refine wp_region_any (by kernel_rfl) ?_
  change wpAny _ _ _ _ _ _ _ (World.drew _)
  have c4 : W4.drew.cell? ⟨w.heap.size, 3, none⟩ = some (.int .i64 size) := (h4.keep hdr4).cell 3
  refine wpAny_take (i := 0) (v := ?_) rfl (by kernel_rfl) (by kernel_rfl) (by kernel_rfl) (fun _ _ _ h => h) (Or.inl ⟨by rfl, ?_⟩) ?_
  rotate_left
  · intro w; go_simp; all_goals (with_reducible rfl)
  try simp only [Act.put, List.setIfInBounds_toArray, List.set_cons_zero, List.set_cons_succ, List.getElem_toArray, List.getElem_cons_succ, List.getElem_cons_zero]
  refine wpAny_take (i := 1) (v := ?_) rfl (by kernel_rfl) (by kernel_rfl) (by kernel_rfl) (fun _ _ _ h => h) (Or.inl ⟨by rfl, ?_⟩) ?_
  rotate_left
  · intro w; go_simp; all_goals (with_reducible rfl)
  try simp only [Act.put, List.setIfInBounds_toArray, List.set_cons_zero, List.set_cons_succ, List.getElem_toArray, List.getElem_cons_succ, List.getElem_cons_zero]
  refine wpAny_ready (rs := [2]) (by kernel_rfl) (by simp) ?_
  refine AllReady.cons rfl (fun K hK => ?_) AllReady.nil
  go_simp
  refine hK _ _ ?_
  clear hK K
  try simp only [Act.put, List.setIfInBounds_toArray, List.set_cons_zero, List.set_cons_succ, List.getElem_toArray, List.getElem_cons_succ, List.getElem_cons_zero]
  refine wpAny_ready (rs := [3]) (by kernel_rfl) (by simp) ?_
  refine AllReady.cons rfl (fun K hK => ?_) AllReady.nil
  go_simp
  refine (hform_any size 12 bs HS.out _).mono ?_
  rintro e V5 ⟨g5, rfl, hr5, hv5⟩
  refine hK _ _ ?_
  clear hK K
  try simp only [Act.put, List.setIfInBounds_toArray, List.set_cons_zero, List.set_cons_succ, List.getElem_toArray, List.getElem_cons_succ, List.getElem_cons_zero]
  refine wpAny_ready (rs := [4]) (by kernel_rfl) (by simp) ?_
  refine AllReady.cons rfl (fun K hK => ?_) AllReady.nil
  refine step_copy_arr (by rfl) _ _ (by rfl) (w.heap.size + 1 + 1) 124 12 _ _ _ L4 (Hd.numB (size : Int).toNat 12) _ (by rfl) (by rfl) (.inl ((h4.keep hdr4).keep hv5).arr) (Hd.numB_len _ _) (by rw [l4.out]; omega) (by omega) (by omega) hr5 ?_
  rw [← hL5.out]
  intro W5 ha5 hx5
  refine hK _ _ ?_
  clear hK K
  try simp only [Act.put, List.setIfInBounds_toArray, List.set_cons_zero, List.set_cons_succ, List.getElem_toArray, List.getElem_cons_succ, List.getElem_cons_zero]
  refine wpAny_done (by kernel_rfl) ?_ _
  have h5 := ((h4.keep hdr4).keep hv5).put ha5 hx5
  clear h4 hdr4 c4 ha5 hx5 hL5 hr5 hv5
  clear V5
  go_wp2
  have hdr5 : Bw W5 W5.drew := (Below.refl _ _).drew
  refine wp_region_any (by kernel_rfl) ?_
  change wpAny _ _ _ _ _ _ _ (World.drew _)
  have c5 : W5.drew.cell? ⟨w.heap.size, 4, none⟩ = some (.int .i64 time) := (h5.keep hdr5).cell 4
  refine wpAny_take (i := 0) (v := ?_) rfl (by kernel_rfl) (by kernel_rfl) (by kernel_rfl) (fun _ _ _ h => h) (Or.inl ⟨by rfl, ?_⟩) ?_
  rotate_left
  · intro w; go_simp; all_goals (with_reducible rfl)
  try simp only [Act.put, List.setIfInBounds_toArray, List.set_cons_zero, List.set_cons_succ, List.getElem_toArray, List.getElem_cons_succ, List.getElem_cons_zero]
  refine wpAny_take (i := 1) (v := ?_) rfl (by kernel_rfl) (by kernel_rfl) (by kernel_rfl) (fun _ _ _ h => h) (Or.inl ⟨by rfl, ?_⟩) ?_
  rotate_left
  · intro w; go_simp; all_goals (with_reducible rfl)
  try simp only [Act.put, List.setIfInBounds_toArray, List.set_cons_zero, List.set_cons_succ, List.getElem_toArray, List.getElem_cons_succ, List.getElem_cons_zero]
  refine wpAny_ready (rs := [2]) (by kernel_rfl) (by simp) ?_
  refine AllReady.cons rfl (fun K hK => ?_) AllReady.nil
  go_simp
  refine hK _ _ ?_
  clear hK K
  try simp only [Act.put, List.setIfInBounds_toArray, List.set_cons_zero, List.set_cons_succ, List.getElem_toArray, List.getElem_cons_succ, List.getElem_cons_zero]
  refine wpAny_ready (rs := [3]) (by kernel_rfl) (by simp) ?_
  refine AllReady.cons rfl (fun K hK => ?_) AllReady.nil
  go_simp
  refine (hform_any time 12 bt HT.out _).mono ?_
  rintro e V6 ⟨g6, rfl, hr6, hv6⟩
  refine hK _ _ ?_
  clear hK K
  try simp only [Act.put, List.setIfInBounds_toArray, List.set_cons_zero, List.set_cons_succ, List.getElem_toArray, List.getElem_cons_succ, List.getElem_cons_zero]
  refine wpAny_ready (rs := [4]) (by kernel_rfl) (by simp) ?_
  refine AllReady.cons rfl (fun K hK => ?_) AllReady.nil
  refine step_copy_arr (by rfl) _ _ (by rfl) (w.heap.size + 1 + 1) 136 12 _ _ _ L5 (Hd.numB (time : Int).toNat 12) _ (by rfl) (by rfl) (.inl ((h5.keep hdr5).keep hv6).arr) (Hd.numB_len _ _) (by rw [l5.out]; omega) (by omega) (by omega) hr6 ?_
  rw [← hL6.out]
  intro W6 ha6 hx6
  refine hK _ _ ?_
  clear hK K
  try simp only [Act.put, List.setIfInBounds_toArray, List.set_cons_zero, List.set_cons_succ, List.getElem_toArray, List.getElem_cons_succ, List.getElem_cons_zero]
  refine wpAny_done (by kernel_rfl) ?_ _
  have h6 := ((h5.keep hdr5).keep hv6).put ha6 hx6
  clear h5 hdr5 c5 ha6 hx6 hL6 hr6 hv6
  clear V6
  have c6a : W6.cell? ⟨w.heap.size, 5, none⟩ = some (.int .u8 ((c.toNat : Nat) : Int)) := h6.cell 5
  obtain ⟨c6b, c6c⟩ := h6.arr.cell (c := 156) (by rw [l6.out]; omega)
  go_wp2
  clear c6c
  obtain ⟨W7, hW7⟩ : ∃ V, V = W6.setCell ⟨w.heap.size + 1 + 1, 156, none⟩ (.int .u8 ((c.toNat : Nat) : Int)) := ⟨_, rfl⟩
  have ha7 : ArrAt W7 (w.heap.size + 1 + 1) L7 := by rw [hW7, hL7.out]; exact arr_store h6.arr c (by rw [l6.out]; omega)
  have hx7 : Bx (· = w.heap.size + 1 + 1) W6 W7 := by rw [hW7]; exact (Bx.refl _ _).put rfl
  have h7 := h6.put ha7 hx7
  rw [← hW7]
  clear hW7 c6a c6b h6 ha7 hx7 hL7
  have hdr7 : Bw W7 W7.drew := (Below.refl _ _).drew
  refine wp_region_any (by kernel_rfl) ?_
  change wpAny _ _ _ _ _ _ _ (World.drew _)
  have c7 : W7.drew.cell? ⟨w.heap.size, 6, none⟩ = some (.string k) := (h7.keep hdr7).cell 6
  refine wpAny_take (i := 0) (v := ?_) rfl (by kernel_rfl) (by kernel_rfl) (by kernel_rfl) (fun _ _ _ h => h) (Or.inl ⟨by rfl, ?_⟩) ?_
  rotate_left
  · intro w; go_simp; all_goals (with_reducible rfl)
  try simp only [Act.put, List.setIfInBounds_toArray, List.set_cons_zero, List.set_cons_succ, List.getElem_toArray, List.getElem_cons_succ, List.getElem_cons_zero]
  refine wpAny_take (i := 1) (v := ?_) rfl (by kernel_rfl) (by kernel_rfl) (by kernel_rfl) (fun _ _ _ h => h) (Or.inl ⟨by rfl, ?_⟩) ?_
  rotate_left
  · intro w; go_simp; all_goals (with_reducible rfl)
  try simp only [Act.put, List.setIfInBounds_toArray, List.set_cons_zero, List.set_cons_succ, List.getElem_toArray, List.getElem_cons_succ, List.getElem_cons_zero]
  refine wpAny_ready (rs := [2]) (by kernel_rfl) (by simp) ?_
  refine AllReady.cons rfl (fun K hK => ?_) AllReady.nil
  go_simp
  refine hK _ _ ?_
  clear hK K
  try simp only [Act.put, List.setIfInBounds_toArray, List.set_cons_zero, List.set_cons_succ, List.getElem_toArray, List.getElem_cons_succ, List.getElem_cons_zero]
  refine wpAny_ready (rs := [3]) (by kernel_rfl) (by simp) ?_
  refine AllReady.cons rfl (fun K hK => ?_) AllReady.nil
  refine step_copy_txt (by rfl) _ _ (by rfl) (w.heap.size + 1 + 1) 157 _ _ L7 k (by rfl) (by rfl) (.inl (h7.keep hdr7).arr) (by rw [l7.out]; have := HK.out; omega) (by have := HK.out; omega) ?_
  rw [← hL8.out]
  intro W8 ha8 hx8
  refine hK _ _ ?_
  clear hK K
  try simp only [Act.put, List.setIfInBounds_toArray, List.set_cons_zero, List.set_cons_succ, List.getElem_toArray, List.getElem_cons_succ, List.getElem_cons_zero]
  refine wpAny_done (by kernel_rfl) ?_ _
  have h8 := (h7.keep hdr7).put ha8 hx8
  clear h7 hdr7 c7 ha8 hx8 hL8
  go_wp2_with (refine wpList_copy_txt (by rfl) _ _ (by rfl) (w.heap.size + 1 + 1) 257 _ _ L8 (Hd.S Hd.ustar) (by rfl) (by rfl) h8.arr (by rw [l8.out, Hd.size_S]; show 257 + 8 ≤ 512; omega) (by rw [Hd.size_S]; show 8 ≤ 255; omega) ?_; rw [Hd.toList_S, ← hL9.out]; intro W9 ha9 hx9)
  have h9 := h8.put ha9 hx9
  clear h8 ha9 hx9 hL9
  have hdr9 : Bw W9 W9.drew := (Below.refl _ _).drew
  refine wp_region_any (by kernel_rfl) ?_
  change wpAny _ _ _ _ _ _ _ (World.drew _)
  refine wpAny_take (i := 0) (v := ?_) rfl (by kernel_rfl) (by kernel_rfl) (by kernel_rfl) (fun _ _ _ h => h) (Or.inl ⟨by rfl, ?_⟩) ?_
  rotate_left
  · intro w; go_simp; all_goals (with_reducible rfl)
  try simp only [Act.put, List.setIfInBounds_toArray, List.set_cons_zero, List.set_cons_succ, List.getElem_toArray, List.getElem_cons_succ, List.getElem_cons_zero]
  refine wpAny_ready (rs := [1]) (by kernel_rfl) (by simp) ?_
  refine AllReady.cons rfl (fun K hK => ?_) AllReady.nil
  go_simp
  refine (hform_any 0 8 (by decide) H0.out _).mono ?_
  rintro e V10 ⟨g10, rfl, hr10, hv10⟩
  refine hK _ _ ?_
  clear hK K
  try simp only [Act.put, List.setIfInBounds_toArray, List.set_cons_zero, List.set_cons_succ, List.getElem_toArray, List.getElem_cons_succ, List.getElem_cons_zero]
  refine wpAny_ready (rs := [2]) (by kernel_rfl) (by simp) ?_
  refine AllReady.cons rfl (fun K hK => ?_) AllReady.nil
  refine step_copy_arr (by rfl) _ _ (by rfl) (w.heap.size + 1 + 1) 329 8 _ _ _ L9 (Hd.numB (0 : Int).toNat 8) _ (by rfl) (by rfl) (.inl ((h9.keep hdr9).keep hv10).arr) (Hd.numB_len _ _) (by rw [l9.out]; omega) (by omega) (by omega) hr10 ?_
  rw [← hL10.out]
  intro W10 ha10 hx10
  refine hK _ _ ?_
  clear hK K
  try simp only [Act.put, List.setIfInBounds_toArray, List.set_cons_zero, List.set_cons_succ, List.getElem_toArray, List.getElem_cons_succ, List.getElem_cons_zero]
  refine wpAny_done (by kernel_rfl) ?_ _
  have h10 := ((h9.keep hdr9).keep hv10).put ha10 hx10
  clear h9 hdr9 ha10 hx10 hL10 hr10 hv10
  clear V10
  go_wp2
  have hdr10 : Bw W10 W10.drew := (Below.refl _ _).drew
  refine wp_region_any (by kernel_rfl) ?_
  change wpAny _ _ _ _ _ _ _ (World.drew _)
  refine wpAny_take (i := 0) (v := ?_) rfl (by kernel_rfl) (by kernel_rfl) (by kernel_rfl) (fun _ _ _ h => h) (Or.inl ⟨by rfl, ?_⟩) ?_
  rotate_left
  · intro w; go_simp; all_goals (with_reducible rfl)
  try simp only [Act.put, List.setIfInBounds_toArray, List.set_cons_zero, List.set_cons_succ, List.getElem_toArray, List.getElem_cons_succ, List.getElem_cons_zero]
  refine wpAny_ready (rs := [1]) (by kernel_rfl) (by simp) ?_
  refine AllReady.cons rfl (fun K hK => ?_) AllReady.nil
  go_simp
  refine (hform_any 0 8 (by decide) H0.out _).mono ?_
  rintro e V11 ⟨g11, rfl, hr11, hv11⟩
  refine hK _ _ ?_
  clear hK K
  try simp only [Act.put, List.setIfInBounds_toArray, List.set_cons_zero, List.set_cons_succ, List.getElem_toArray, List.getElem_cons_succ, List.getElem_cons_zero]
  refine wpAny_ready (rs := [2]) (by kernel_rfl) (by simp) ?_
  refine AllReady.cons rfl (fun K hK => ?_) AllReady.nil
  refine step_copy_arr (by rfl) _ _ (by rfl) (w.heap.size + 1 + 1) 337 8 _ _ _ L10 (Hd.numB (0 : Int).toNat 8) _ (by rfl) (by rfl) (.inl ((h10.keep hdr10).keep hv11).arr) (Hd.numB_len _ _) (by rw [l10.out]; omega) (by omega) (by omega) hr11 ?_
  rw [← hL11.out]
  intro W11 ha11 hx11
  refine hK _ _ ?_
  clear hK K
  try simp only [Act.put, List.setIfInBounds_toArray, List.set_cons_zero, List.set_cons_succ, List.getElem_toArray, List.getElem_cons_succ, List.getElem_cons_zero]
  refine wpAny_done (by kernel_rfl) ?_ _
  have h11 := ((h10.keep hdr10).keep hv11).put ha11 hx11
  clear h10 hdr10 ha11 hx11 hL11 hr11 hv11
  clear V11
  go_wp2
  have hdr11 : Bw W11 W11.drew := (Below.refl _ _).drew
  refine wp_region_any (by kernel_rfl) ?_
  change wpAny _ _ _ _ _ _ _ (World.drew _)
  have c11 : W11.drew.cell? ⟨w.heap.size, 1, none⟩ = some (.string p) := (h11.keep hdr11).cell 1
  refine wpAny_take (i := 0) (v := ?_) rfl (by kernel_rfl) (by kernel_rfl) (by kernel_rfl) (fun _ _ _ h => h) (Or.inl ⟨by rfl, ?_⟩) ?_
  rotate_left
  · intro w; go_simp; all_goals (with_reducible rfl)
  try simp only [Act.put, List.setIfInBounds_toArray, List.set_cons_zero, List.set_cons_succ, List.getElem_toArray, List.getElem_cons_succ, List.getElem_cons_zero]
  refine wpAny_take (i := 1) (v := ?_) rfl (by kernel_rfl) (by kernel_rfl) (by kernel_rfl) (fun _ _ _ h => h) (Or.inl ⟨by rfl, ?_⟩) ?_
  rotate_left
  · intro w; go_simp; all_goals (with_reducible rfl)
  try simp only [Act.put, List.setIfInBounds_toArray, List.set_cons_zero, List.set_cons_succ, List.getElem_toArray, List.getElem_cons_succ, List.getElem_cons_zero]
  refine wpAny_ready (rs := [2]) (by kernel_rfl) (by simp) ?_
  refine AllReady.cons rfl (fun K hK => ?_) AllReady.nil
  go_simp
  refine hK _ _ ?_
  clear hK K
  try simp only [Act.put, List.setIfInBounds_toArray, List.set_cons_zero, List.set_cons_succ, List.getElem_toArray, List.getElem_cons_succ, List.getElem_cons_zero]
  refine wpAny_ready (rs := [3]) (by kernel_rfl) (by simp) ?_
  refine AllReady.cons rfl (fun K hK => ?_) AllReady.nil
  refine step_copy_txt (by rfl) _ _ (by rfl) (w.heap.size + 1 + 1) 345 _ _ L11 p (by rfl) (by rfl) (.inl (h11.keep hdr11).arr) (by rw [l11.out]; have := HP.out; omega) (by have := HP.out; omega) ?_
  rw [← hL12.out]
  intro W12 ha12 hx12
  refine hK _ _ ?_
  clear hK K
  try simp only [Act.put, List.setIfInBounds_toArray, List.set_cons_zero, List.set_cons_succ, List.getElem_toArray, List.getElem_cons_succ, List.getElem_cons_zero]
  refine wpAny_done (by kernel_rfl) ?_ _
  have h12 := (h11.keep hdr11).put ha12 hx12
  clear h11 hdr11 c11 ha12 hx12 hL12
  have hi := info_raw l12.out
  have hl4 : (Hd.sealB L12).length = 512 := by rw [Hd.seal_len (by rw [l12.out]; omega), l12.out]
  have hi4 := info_raw hl4
  have HZ : Z.size = (Hd.arr (Hd.sealB L12)).size := by rw [hZs.out, Hd.arr_size, hl4]
  have H12 : Hid (Lai w W12 n p mode size time c.toNat k Z L12) := h12
  go_wp2_with (first
    | refine wpList_load_row rfl 112 _ rfl (w.heap.size + 1 + 1) rfl 112 (Hd.arr L12) (0, 0) _ H12.out.arr Tryz.underlying112 rfl hi ?_
    | (go_at_call 83; refine (hsealed_any L12 l12.out _).mono ?_; rintro e W13 ⟨rfl, hw13⟩; have h13 := H12.out.keep hw13)
    | refine wpList_store_row rfl 112 _ _ rfl (w.heap.size + 1) (Hd.arr (Hd.sealB L12)) rfl rfl 112 Z h13.room hi4 HZ (Hd.arr_one _) ?_)
  rw [← HE.out]
  exact bodyPost_ret (results_cell_row Tryz.results64 _ _ (w.heap.size + 1) 112 (Hd.arr (Hd.sealB L12)) (0, 0) _ rfl (setRow_heap _ (w.heap.size + 1) _ _ _ _ h13.room) Tryz.underlying112 rfl hi4) rfl ⟨rfl, bw_of_bx h13.bw (bx_set _ (w.heap.size + 1) _ rfl) (fun k e => by omega)⟩
theorem hlaid_any (h : Hd.Hdr) (g : Hd.Good h) (w : World) : Calls Tryz.prog 64 #[.agg (Hd.hv h)] w fun e w' => e = .returned (.agg (Hd.arr (Hd.layB h))) ∧ Bw w w' := by
  have := hlaid_x (Hd.S h.name) (Hd.S h.pre) (Hd.S h.link) h.mode h.size h.time h.typ (by rw [Hd.size_S]; exact g.name) (by rw [Hd.size_S]; exact g.link) (by rw [Hd.size_S]; exact g.pre) g.mode g.size g.time w
  rw [Hd.toList_S, Hd.toList_S, Hd.toList_S] at this
  have e : Hd.sealB (Hd.layP h) = Hd.layB h := by rw [Hd.layP_raw g]; rfl
  rw [show (⟨h.name, h.mode, h.size, h.time, h.typ, h.link, h.pre⟩ : Hd.Hdr) = h from rfl, e] at this
  exact this
end Go.Proofs.YtldkhbkgmiicbabGreatDoor

/- The program's own Sum, Seal, Blank, Put and Full, as landed at e169a841. -/
namespace Go.Proofs.YtldkhbkgmiicbabGreatDoor
open Go.RowKit Go.Deep
set_option linter.unusedVariables false
set_option linter.unusedSimpArgs false

/-- an array as an answer: a row of 512 -/
structure NewArr (w w' : World) (g : Nat) (l : Hd.B) : Prop where
  arr : ArrAt w' g l
  new : w.heap.size ≤ g
end Go.Proofs.YtldkhbkgmiicbabGreatDoor

/- The library contracts of what the program calls, laid over this program. -/
namespace Go.Proofs.YtldkhbkgmiicbabGreatDoor
open Go.Shelf
end Go.Proofs.YtldkhbkgmiicbabGreatDoor

/- The program's own text and number, as landed at e169a841. -/
namespace Go.Proofs.YtldkhbkgmiicbabGreatDoor
open Go.RowKit Go.Deep
set_option linter.unusedVariables false
set_option linter.unusedSimpArgs false

/-- a number with a form in so many bytes -/
def Hd.Fits (m L : Nat) : Prop := m ≤ 9223372036854775807 ∧ (m < 8 ^ (L - 1) ∨ m < 256 ^ (L - 1))
/-- the number that a field tells, if it is one's form -/
def Hd.NumOf (l : Hd.B) (z : Int) : Prop := ∀ m : Nat, Hd.Fits m l.length → Hd.numB m l.length = l → z = (m : Int)
end Go.Proofs.YtldkhbkgmiicbabGreatDoor

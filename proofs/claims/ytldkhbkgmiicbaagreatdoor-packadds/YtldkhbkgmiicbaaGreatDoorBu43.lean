/- Texts of mine, put together. -/
import Derived.Test.YtldkhbkgmiicbaaGreatDoorBu42
import Derived.Test.YtldkhbkgmiicbaaGreatDoorBu34

/- The document's own Seal, lay and Put, of layer 10 (written by mkrlay10.py). -/
namespace Go.Proofs.YtldkhbkgmiicbaaGreatDoor
open Go.RowKit Go.Deep
set_option linter.unusedVariables false
set_option linter.unusedSimpArgs false

theorem row_to {w : World} {b o n : Nat} {l : Hd.B} (h : RowAt w (some ⟨b, o, none⟩) n (Hd.rowF l)) (hl : l.length = n) (m : Nat) (hm : m ≤ n) : RowAt w (some ⟨b, o, none⟩) m (Hd.rowF (l.take m)) := by
  refine ⟨?_, Hd.rowF_bd _⟩
  by_cases h0 : m = 0
  · exact Or.inl h0
  obtain ⟨b', o', e, hc⟩ := h.at (k := 0) (by omega)
  cases e
  refine Or.inr ⟨b, o, rfl, fun i hi => ?_⟩
  rw [hc i (by omega), Hd.rowF_at (List.getElem?_eq_getElem (show i < l.length by omega)), Hd.rowF_at (show (l.take m)[i]? = some l[i] by rw [List.getElem?_take, if_pos hi, List.getElem?_eq_getElem])]
theorem row_from {w : World} {b o n : Nat} {l : Hd.B} (h : RowAt w (some ⟨b, o, none⟩) n (Hd.rowF l)) (hl : l.length = n) (m k : Nat) (hm : m + k = n) : RowAt w (some ⟨b, o + m, none⟩) k (Hd.rowF (l.drop m)) := by
  refine ⟨?_, Hd.rowF_bd _⟩
  by_cases h0 : k = 0
  · exact Or.inl h0
  obtain ⟨b', o', e, hc⟩ := h.at (k := 0) (by omega)
  cases e
  refine Or.inr ⟨b, o + m, rfl, fun i hi => ?_⟩
  rw [Nat.add_assoc, hc (m + i) (by omega), Hd.rowF_at (List.getElem?_eq_getElem (show m + i < l.length by omega)), Hd.rowF_at (show (l.drop m)[i]? = some l[m + i] by rw [List.getElem?_drop, List.getElem?_eq_getElem])]
set_option maxRecDepth 100000 in
set_option maxHeartbeats 2000000 in
theorem rSeal_any (A : Option Addr) (ca : Nat) (l : Hd.B) (hl : l.length = 512) (hca : 512 ≤ ca) (w : World) (hr : RowAt w A 512 (Hd.rowF l)) :
    Calls Tryz.prog 101 #[.slice A 512 ca] w fun e w' => ∃ v, e = .returned v ∧ GB w' w.heap.size v (Hd.sealB l) ∧ Bw w w' := by
  obtain ⟨i0, hi0, hz0, hz1, hz2⟩ := info_parts info_u8
  obtain ⟨b, o, rfl, -⟩ := hr.at (k := 0) (by omega)
  have hr1 := row_to hr hl 148 (by omega)
  have hr2 := row_from hr hl 156 356 (by omega)
  have HR : Hid (RowAt w (some ⟨b, o, none⟩) 512 (Hd.rowF l)) := hr
  have HR2 : Hid (RowAt w (some ⟨b, o + 156, none⟩) 356 (Hd.rowF (l.drop 156))) := hr2
  have hl1 : Hid ((l.take 148).length = 148) := by show _ = _; rw [List.length_take]; omega
  have hl2 : Hid ((l.drop 156).length = 356) := by show _ = _; rw [List.length_drop]; omega
  have HL : Hid (l.length = 512) := hl
  have hca1 : (148 : Int) ≤ (ca : Int) := by omega
  have d1 : ¬ ca = 156 := by omega
  have hsb := Hd.sumB_bd (b := l) (by omega)
  obtain ⟨N, hN⟩ : ∃ N : Nat, Hid (N = Hd.sumB l) := ⟨_, rfl⟩
  rw [← hN.out] at hsb
  have HSB : Hid (N < 8 ^ (7 - 1)) := hsb
  have e1 : Hid (cellsU (Hd.rowF (l.take 148)) 148 = Lib.byteCells (l.take 148)) := by show _ = _; rw [← Hd.cells_row, hl1.out]
  have e2 : Hid (cellsU (Hd.rowF (l.drop 156)) 356 = Lib.byteCells (l.drop 156)) := by show _ = _; rw [← Hd.cells_row, hl2.out]
  have Nb : (N : Int) ≤ 9223372036854775807 := by have : N < 262144 := hsb; omega
  clear hr hr2 hl hsb
  go_enter Tryz.func101, Tryz.ntmps101
  go_wp2_with (first
    | (at_builtin; refine wpList_append_rowat _ (by rfl) (.tmp 4) (.tmp 6) _ (by rfl) w.heap.size 5 i0 _ 1 Tryz.underlying24 hi0 hz0 hz1 hz2 rfl _ _ _ (by rfl) (World.ownsRow_nil w _ _ _) _ 148 _ (Hd.rowF (l.take 148)) (by rfl) hr1 (fun e => by cases e) (by unfold maxLen; omega) (by omega) (Nat.le_refl _) ?_; intro v1 w1 hown1 hgrow1; have b1 : Bw w w1 := (Below.refl _ _).grown hgrow1 (Nat.le_refl _) (fun k hk => by simp [Value.ownBlock] at hk); rw [List.nil_append, Nat.zero_add, e1.out] at hown1; have g1 : GB w1 w.heap.size v1 (l.take 148) := (by unfold GB; rw [hl1.out]; exact hown1); clear hown1 hgrow1)
    | (go_at_call 125; refine (rSum_any _ _ l HL.out _ (HR.out.keep b1)).mono ?_; rintro e w' ⟨rfl, hw'⟩; subst w'; rw [← hN.out])
    | (go_at_call 100; refine (rnumber_any10 w.heap.size v1 (l.take 148) (N : Int) 7 Nb (by omega) (by omega) (Int.natCast_nonneg _) (.inl (by rw [Int.toNat_natCast]; exact HSB.out)) (by rw [hl1.out]; omega) _ b1.size g1).mono ?_; rintro e w2 ⟨v2, rfl, g2, b2⟩; rw [Int.toNat_natCast] at g2; have g2' : w2.ownsRow w.heap.size 5 1 v2 155 (Lib.byteCells (l.take 148 ++ Hd.numB N 7)) := (by have h := g2; unfold GB at h; rw [List.length_append, hl1.out, Hd.numB_len] at h; exact h); clear g2)
    | (at_builtin; refine wpList_append_lies _ (by rfl) (.tmp 12) (.tmp 13) _ (by rfl) w.heap.size 5 i0 _ 1 1 Tryz.underlying24 hi0 hz0 hz1 hz2 rfl (by omega) _ _ _ (by rfl) (World.ownsRow.alloc g2' _) ⟨w2.heap.size, 0, none⟩ 1 1 [.int .u8 32] (by rfl) (by rfl) (World.news_of_block (cs := #[_]) (t := 5) (fr := (0, 0)) (heap_alloc_new w2 _)) (by simp [Value.oneCell']) (by omega) (by unfold maxLen; omega) (by omega) (by have := b1.size; have := b2.size; simp; omega) (w2.heap.size + 1) (by simp) ?_; intro g4 c4 w4 hown4 hgrow4 hat4 hlt4; have s2 : w.heap.size ≤ w2.heap.size := (by have := b1.size; have := b2.size; omega); have b4 : Below w.heap.size w w4 := bw_grow hgrow4 (Below.alloc (Below.trans b1 b2) s2 _) (by rw [size_alloc]; omega) (World.ownsRow.alloc g2' _); have r4 := HR2.out.keep b4; have hown4' : w4.ownsRow w.heap.size 5 1 (.slice (some ⟨g4, 0, none⟩) 156 c4) 156 (Lib.byteCells (l.take 148 ++ Hd.numB N 7 ++ [32])) := (by rw [byteCells_append]; exact hown4); clear hown4 hgrow4)
    | (at_builtin; refine wpList_append_rowat _ (by rfl) (.tmp 15) (.tmp 17) _ (by rfl) w.heap.size 5 i0 _ 1 Tryz.underlying24 hi0 hz0 hz1 hz2 rfl _ _ _ (by rfl) hown4' _ 356 _ (Hd.rowF (l.drop 156)) (by rfl) r4 (fun e => by cases e) (by unfold maxLen; omega) (by omega) b4.size ?_; intro v5 w5 hown5 hgrow5))
  go_ret
  have b5 : Bw w w5 := b4.grown hgrow5 b4.size (own_ge hown4')
  refine ⟨v5, rfl, ?_, b5⟩
  have es : Hd.sealB l = l.take 148 ++ Hd.numB N 7 ++ [32] ++ l.drop 156 := by
    unfold Hd.sealB
    rw [← hN.out]
    simp only [List.append_assoc, List.cons_append, List.nil_append]
  have el : (l.take 148 ++ Hd.numB N 7 ++ [32] ++ l.drop 156).length = 156 + 356 := by
    rw [List.length_append, List.length_append, List.length_append, hl2.out, hl1.out, Hd.numB_len]; rfl
  unfold GB
  rw [es, el, byteCells_append (l.take 148 ++ Hd.numB N 7 ++ [32]), ← e2.out]
  exact hown5
/-- a world within lay: the struct and the list -/
structure Ly (w W : World) (n p : ByteArray) (m s t : Int) (c : Nat) (k : ByteArray) (v : Value) (L : Hd.B) : Prop where
  cell : ∀ i, W.cell? ⟨w.heap.size, i, none⟩ = (#[.string n, .string p, .int .i64 m, .int .i64 s, .int .i64 t, .int .u8 (c : Int), .string k] : Array Value)[i]?
  list : GB W (w.heap.size + 1) v L
  bw : Below (w.heap.size + 1) (w.alloc (.cells #[.string n, .string p, .int .i64 m, .int .i64 s, .int .i64 t, .int .u8 (c : Int), .string k] 61)) W
theorem Ly.mk' {w W : World} {n p : ByteArray} {m s t : Int} {c : Nat} {k : ByteArray} {v : Value} {L : Hd.B} (l : GB W (w.heap.size + 1) v L) (b : Below (w.heap.size + 1) (w.alloc (.cells #[.string n, .string p, .int .i64 m, .int .i64 s, .int .i64 t, .int .u8 (c : Int), .string k] 61)) W) : Ly w W n p m s t c k v L :=
  ⟨fun i => cell_of_row W w.heap.size i _ _ _ ((b.block w.heap.size (by omega)).trans (heap_alloc_new _ _)), l, b⟩
theorem Ly.next {w W W' : World} {n p : ByteArray} {m s t : Int} {c : Nat} {k : ByteArray} {v v' : Value} {L L' : Hd.B} (h : Ly w W n p m s t c k v L) (l : GB W' (w.heap.size + 1) v' L') (b : Below (w.heap.size + 1) W W') : Ly w W' n p m s t c k v' L' := Ly.mk' l (Below.trans h.bw b)
theorem Ly.size {w W : World} {n p : ByteArray} {m s t : Int} {c : Nat} {k : ByteArray} {v : Value} {L : Hd.B} (h : Ly w W n p m s t c k v L) : w.heap.size + 1 ≤ W.heap.size := by have := h.bw.size; rw [size_alloc] at this; exact this
set_option maxRecDepth 100000 in
set_option maxHeartbeats 8000000 in
theorem rlay_x (n p k : ByteArray) (mode size time : Int) (c : UInt8) (hn : n.size ≤ 100) (hk : k.size ≤ 100) (hp : p.size ≤ 155) (hm : 0 ≤ mode ∧ mode ≤ 4095) (hs : 0 ≤ size ∧ size ≤ 8589934591) (ht : 0 ≤ time ∧ time ≤ 1099511627776) (g : Hd.Good ⟨n.toList, mode, size, time, c, k.toList, p.toList⟩) (w : World) :
    Calls Tryz.prog 77 #[.agg #[.string n, .string p, .int .i64 mode, .int .i64 size, .int .i64 time, .int .u8 ((c.toNat : Nat) : Int), .string k]] w fun e w' => ∃ v, e = .returned v ∧ GB w' w.heap.size v (Hd.layB ⟨n.toList, mode, size, time, c, k.toList, p.toList⟩) ∧ Bw w w' := by
  obtain ⟨i0, hi0, hz0, hz1, hz2⟩ := info_parts info_u8
  have HG : Hid (Hd.Good ⟨n.toList, mode, size, time, c, k.toList, p.toList⟩) := g
  have HM : Hid (mode ≤ 9223372036854775807 ∧ 0 ≤ mode ∧ (mode.toNat < 8 ^ (8 - 1) ∨ mode.toNat < 256 ^ (8 - 1))) := ⟨by omega, hm.1, .inl (by show _ < 2097152; omega)⟩
  have HS : Hid (size ≤ 9223372036854775807 ∧ 0 ≤ size ∧ (size.toNat < 8 ^ (12 - 1) ∨ size.toNat < 256 ^ (12 - 1))) := ⟨by omega, hs.1, .inl (by show _ < 8589934592; omega)⟩
  have HT : Hid (time ≤ 9223372036854775807 ∧ 0 ≤ time ∧ (time.toNat < 8 ^ (12 - 1) ∨ time.toNat < 256 ^ (12 - 1))) := ⟨by omega, ht.1, .inr (by show _ < 309485009821345068724781056; omega)⟩
  have H0 : Hid ((0 : Int) ≤ 9223372036854775807 ∧ (0 : Int) ≤ 0 ∧ ((0 : Int).toNat < 8 ^ (8 - 1) ∨ (0 : Int).toNat < 256 ^ (8 - 1))) := ⟨by decide, by decide, .inl (by decide)⟩
  have HN : Hid (n.size ≤ 512) := by show _ ≤ _; omega
  have HK : Hid (k.size ≤ 512) := by show _ ≤ _; omega
  have HP : Hid (p.size ≤ 512) := by show _ ≤ _; omega
  have HE : Hid ((ByteArray.mk #[]).size ≤ 512) := by show 0 ≤ 512; omega
  have HU : Hid ((ByteArray.mk #[117, 115, 116, 97, 114, 0, 48, 48]).size ≤ 512) := by show 8 ≤ 512; omega
  have EE : Hid ((ByteArray.mk #[]).toList = []) := ByteArray.toList_mk []
  have EU : Hid ((ByteArray.mk #[117, 115, 116, 97, 114, 0, 48, 48]).toList = Hd.ustar) := ByteArray.toList_mk [117, 115, 116, 97, 114, 0, 48, 48]
  have an : Hid ((Hd.pad n.toList 100).length = 100) := Hd.pad_len g.name
  have ak : Hid ((Hd.pad k.toList 100).length = 100) := Hd.pad_len g.link
  have ap : Hid ((Hd.pad p.toList 155).length = 155) := Hd.pad_len g.pre
  obtain ⟨L0, hL0⟩ : ∃ L : Hd.B, Hid (L = []) := ⟨_, rfl⟩
  have l0 : Hid (L0.length = 0) := by show _ = _; rw [hL0.out]; rfl
  obtain ⟨L1, hL1⟩ : ∃ L, Hid (L = L0 ++ (Hd.pad n.toList 100)) := ⟨_, rfl⟩
  have l1 : Hid (L1.length = 100) := by show _ = _; rw [hL1.out, List.length_append, l0.out, an.out]
  obtain ⟨L2, hL2⟩ : ∃ L, Hid (L = L1 ++ (Hd.numB (mode : Int).toNat 8)) := ⟨_, rfl⟩
  have l2 : Hid (L2.length = 108) := by show _ = _; rw [hL2.out, List.length_append, l1.out, Hd.numB_len]
  obtain ⟨L3, hL3⟩ : ∃ L, Hid (L = L2 ++ (Hd.numB (0 : Int).toNat 8)) := ⟨_, rfl⟩
  have l3 : Hid (L3.length = 116) := by show _ = _; rw [hL3.out, List.length_append, l2.out, Hd.numB_len]
  obtain ⟨L4, hL4⟩ : ∃ L, Hid (L = L3 ++ (Hd.numB (0 : Int).toNat 8)) := ⟨_, rfl⟩
  have l4 : Hid (L4.length = 124) := by show _ = _; rw [hL4.out, List.length_append, l3.out, Hd.numB_len]
  obtain ⟨L5, hL5⟩ : ∃ L, Hid (L = L4 ++ (Hd.numB (size : Int).toNat 12)) := ⟨_, rfl⟩
  have l5 : Hid (L5.length = 136) := by show _ = _; rw [hL5.out, List.length_append, l4.out, Hd.numB_len]
  obtain ⟨L6, hL6⟩ : ∃ L, Hid (L = L5 ++ (Hd.numB (time : Int).toNat 12)) := ⟨_, rfl⟩
  have l6 : Hid (L6.length = 148) := by show _ = _; rw [hL6.out, List.length_append, l5.out, Hd.numB_len]
  obtain ⟨L7, hL7⟩ : ∃ L, Hid (L = L6 ++ (Hd.pad [] 8)) := ⟨_, rfl⟩
  have l7 : Hid (L7.length = 156) := by show _ = _; rw [hL7.out, List.length_append, l6.out, Hd.pad_len (s := []) (w := 8) (Nat.zero_le _)]
  obtain ⟨L8, hL8⟩ : ∃ L, Hid (L = L7 ++ [c]) := ⟨_, rfl⟩
  have l8 : Hid (L8.length = 157) := by show _ = _; rw [hL8.out, List.length_append, l7.out, List.length_singleton]
  obtain ⟨L9, hL9⟩ : ∃ L, Hid (L = L8 ++ (Hd.pad k.toList 100)) := ⟨_, rfl⟩
  have l9 : Hid (L9.length = 257) := by show _ = _; rw [hL9.out, List.length_append, l8.out, ak.out]
  obtain ⟨L10, hL10⟩ : ∃ L, Hid (L = L9 ++ (Hd.pad Hd.ustar 8)) := ⟨_, rfl⟩
  have l10 : Hid (L10.length = 265) := by show _ = _; rw [hL10.out, List.length_append, l9.out, Hd.pad_len (s := Hd.ustar) (w := 8) (by decide)]
  obtain ⟨L11, hL11⟩ : ∃ L, Hid (L = L10 ++ (Hd.pad [] 64)) := ⟨_, rfl⟩
  have l11 : Hid (L11.length = 329) := by show _ = _; rw [hL11.out, List.length_append, l10.out, Hd.pad_len (s := []) (w := 64) (Nat.zero_le _)]
  obtain ⟨L12, hL12⟩ : ∃ L, Hid (L = L11 ++ (Hd.numB (0 : Int).toNat 8)) := ⟨_, rfl⟩
  have l12 : Hid (L12.length = 337) := by show _ = _; rw [hL12.out, List.length_append, l11.out, Hd.numB_len]
  obtain ⟨L13, hL13⟩ : ∃ L, Hid (L = L12 ++ (Hd.numB (0 : Int).toNat 8)) := ⟨_, rfl⟩
  have l13 : Hid (L13.length = 345) := by show _ = _; rw [hL13.out, List.length_append, l12.out, Hd.numB_len]
  obtain ⟨L14, hL14⟩ : ∃ L, Hid (L = L13 ++ (Hd.pad p.toList 155)) := ⟨_, rfl⟩
  have l14 : Hid (L14.length = 500) := by show _ = _; rw [hL14.out, List.length_append, l13.out, ap.out]
  obtain ⟨L15, hL15⟩ : ∃ L, Hid (L = L14 ++ (Hd.pad [] 12)) := ⟨_, rfl⟩
  have l15 : Hid (L15.length = 512) := by show _ = _; rw [hL15.out, List.length_append, l14.out, Hd.pad_len (s := []) (w := 12) (Nat.zero_le _)]
  have HRAW : Hid (L15 = Hd.rawB ⟨n.toList, mode, size, time, c, k.toList, p.toList⟩) := by
    show _ = _
    rw [hL15.out, hL14.out, hL13.out, hL12.out, hL11.out, hL10.out, hL9.out, hL8.out, hL7.out, hL6.out, hL5.out, hL4.out, hL3.out, hL2.out, hL1.out, hL0.out]
    unfold Hd.rawB Hd.ahead Hd.after
    simp only [List.flatten_cons, List.flatten_nil, List.append_assoc, List.nil_append, List.append_nil]
    rfl
  clear hm hs ht hn hk hp g hL0
  obtain ⟨W0, hW0⟩ : ∃ V, V = w.alloc (.cells #[.string n, .string p, .int .i64 mode, .int .i64 size, .int .i64 time, .int .u8 ((c.toNat : Nat) : Int), .string k] 61) := ⟨_, rfl⟩
  have h0 : Ly w W0 n p mode size time c.toNat k (.slice none 0 0) [] := Ly.mk' (GB.nil _ _) (by rw [hW0]; exact Below.refl _ _)
  have H0L : Hid (Ly w W0 n p mode size time c.toNat k (.slice none 0 0) L0) := by
    have e : L0 = [] := List.eq_nil_of_length_eq_zero l0.out
    rw [e]; exact h0
  have c0 : W0.cell? ⟨w.heap.size, 0, none⟩ = some (.string n) := h0.cell 0
  clear h0
  go_enter Tryz.func77, Tryz.ntmps77
  go_wp2_with (go_at_call 99; have tok : w = w := rfl; rw [← hW0]; clear hW0; refine (rtext_any (w.heap.size + 1) _ L0 n 100 (by omega) HN.out (by rw [l0.out]; omega) _ H0L.out.size H0L.out.list).mono ?_; rintro e W1 ⟨v1, rfl, g1, b1⟩; rw [← hL1.out] at g1; clear tok; have H1L : Hid (Ly w W1 n p mode size time c.toNat k v1 L1) := H0L.out.next g1 b1; clear H0L g1 b1 hL1; clear c0; have c1 : W1.cell? ⟨w.heap.size, 2, none⟩ = some (.int .i64 mode) := H1L.out.cell 2)
  go_wp2_with (go_at_call 100; refine (rnumber_any10 (w.heap.size + 1) v1 L1 mode 8 HM.out.1 (by omega) (by omega) HM.out.2.1 HM.out.2.2 (by rw [l1.out]; omega) _ H1L.out.size H1L.out.list).mono ?_; rintro e W2 ⟨v2, rfl, g2, b2⟩; rw [← hL2.out] at g2; have H2L : Hid (Ly w W2 n p mode size time c.toNat k v2 L2) := H1L.out.next g2 b2; clear H1L g2 b2 hL2; clear c1)
  go_wp2_with (go_at_call 100; refine (rnumber_any10 (w.heap.size + 1) v2 L2 0 8 H0.out.1 (by omega) (by omega) H0.out.2.1 H0.out.2.2 (by rw [l2.out]; omega) _ H2L.out.size H2L.out.list).mono ?_; rintro e W3 ⟨v3, rfl, g3, b3⟩; rw [← hL3.out] at g3; have H3L : Hid (Ly w W3 n p mode size time c.toNat k v3 L3) := H2L.out.next g3 b3; clear H2L g3 b3 hL3)
  go_wp2_with (go_at_call 100; refine (rnumber_any10 (w.heap.size + 1) v3 L3 0 8 H0.out.1 (by omega) (by omega) H0.out.2.1 H0.out.2.2 (by rw [l3.out]; omega) _ H3L.out.size H3L.out.list).mono ?_; rintro e W4 ⟨v4, rfl, g4, b4⟩; rw [← hL4.out] at g4; have H4L : Hid (Ly w W4 n p mode size time c.toNat k v4 L4) := H3L.out.next g4 b4; clear H3L g4 b4 hL4; have c4 : W4.cell? ⟨w.heap.size, 3, none⟩ = some (.int .i64 size) := H4L.out.cell 3)
  go_wp2_with (go_at_call 100; refine (rnumber_any10 (w.heap.size + 1) v4 L4 size 12 HS.out.1 (by omega) (by omega) HS.out.2.1 HS.out.2.2 (by rw [l4.out]; omega) _ H4L.out.size H4L.out.list).mono ?_; rintro e W5 ⟨v5, rfl, g5, b5⟩; rw [← hL5.out] at g5; have H5L : Hid (Ly w W5 n p mode size time c.toNat k v5 L5) := H4L.out.next g5 b5; clear H4L g5 b5 hL5; clear c4; have c5 : W5.cell? ⟨w.heap.size, 4, none⟩ = some (.int .i64 time) := H5L.out.cell 4)
  go_wp2_with (go_at_call 100; refine (rnumber_any10 (w.heap.size + 1) v5 L5 time 12 HT.out.1 (by omega) (by omega) HT.out.2.1 HT.out.2.2 (by rw [l5.out]; omega) _ H5L.out.size H5L.out.list).mono ?_; rintro e W6 ⟨v6, rfl, g6, b6⟩; rw [← hL6.out] at g6; have H6L : Hid (Ly w W6 n p mode size time c.toNat k v6 L6) := H5L.out.next g6 b6; clear H5L g6 b6 hL6; clear c5)
  go_wp2_with (first | (go_at_call 99; have tok : w = w := rfl; refine (rtext_any (w.heap.size + 1) v6 L6 (ByteArray.mk #[]) 8 (by omega) HE.out (by rw [l6.out]; omega) _ H6L.out.size H6L.out.list).mono ?_; rintro e W7 ⟨v7, rfl, g7, b7⟩; rw [EE.out] at g7; rw [← hL7.out] at g7; clear tok; have H7L : Hid (Ly w W7 n p mode size time c.toNat k v7 L7) := H6L.out.next g7 b7; clear H6L g7 b7 hL7; have c7 : W7.cell? ⟨w.heap.size, 5, none⟩ = some (.int .u8 ((c.toNat : Nat) : Int)) := H7L.out.cell 5; have G7 : Hid (W7.ownsRow (w.heap.size + 1) 5 1 v7 156 (Lib.byteCells L7)) := (by have h := H7L.out.list; unfold GB at h; rw [l7.out] at h; exact h)) | (at_builtin; refine wpList_append_lies _ (by rfl) (.tmp 25) (.tmp 28) _ (by rfl) (w.heap.size + 1) 5 i0 _ 1 1 Tryz.underlying24 hi0 hz0 hz1 hz2 rfl (by omega) _ _ _ (by rfl) (World.ownsRow.alloc G7.out _) ⟨W7.heap.size, 0, none⟩ 1 1 [.int .u8 ((c.toNat : Nat) : Int)] (by rfl) (by rfl) (World.news_of_block (cs := #[_]) (t := 5) (fr := (0, 0)) (heap_alloc_new W7 _)) (by simp [Value.oneCell']) (by omega) (by unfold maxLen; omega) (by omega) (by have := H7L.out.size; simp; omega) (W7.heap.size + 1) (by simp) ?_; intro q8 p8 W8 hown8 hgrow8 hat8 hlt8; have b8 : Below (w.heap.size + 1) W7 W8 := bw_grow hgrow8 (Below.alloc (Below.refl _ _) H7L.out.size _) (by have := H7L.out.size; rw [size_alloc]; omega) (World.ownsRow.alloc G7.out _); obtain ⟨v8, hv8⟩ : ∃ v, v = Value.slice (some ⟨q8, 0, none⟩) 157 p8 := ⟨_, rfl⟩; have g8 : GB W8 (w.heap.size + 1) v8 L8 := (by rw [hv8]; unfold GB; rw [l8.out, hL8.out, byteCells_append]; exact hown8); rw [← hv8]; clear hv8 hown8 hgrow8 hat8 hlt8; have H8L : Hid (Ly w W8 n p mode size time c.toNat k v8 L8) := H7L.out.next g8 b8; clear H7L g8 b8 hL8; clear c7; have c8 : W8.cell? ⟨w.heap.size, 6, none⟩ = some (.string k) := H8L.out.cell 6))
  go_wp2_with (go_at_call 99; have tok : w = w := rfl; refine (rtext_any (w.heap.size + 1) v8 L8 k 100 (by omega) HK.out (by rw [l8.out]; omega) _ H8L.out.size H8L.out.list).mono ?_; rintro e W9 ⟨v9, rfl, g9, b9⟩; rw [← hL9.out] at g9; clear tok; have H9L : Hid (Ly w W9 n p mode size time c.toNat k v9 L9) := H8L.out.next g9 b9; clear H8L g9 b9 hL9; clear c8)
  go_wp2_with (go_at_call 99; have tok : w = w := rfl; refine (rtext_any (w.heap.size + 1) v9 L9 (ByteArray.mk #[117, 115, 116, 97, 114, 0, 48, 48]) 8 (by omega) HU.out (by rw [l9.out]; omega) _ H9L.out.size H9L.out.list).mono ?_; rintro e W10 ⟨v10, rfl, g10, b10⟩; rw [EU.out] at g10; rw [← hL10.out] at g10; clear tok; have H10L : Hid (Ly w W10 n p mode size time c.toNat k v10 L10) := H9L.out.next g10 b10; clear H9L g10 b10 hL10)
  go_wp2_with (go_at_call 99; have tok : w = w := rfl; refine (rtext_any (w.heap.size + 1) v10 L10 (ByteArray.mk #[]) 64 (by omega) HE.out (by rw [l10.out]; omega) _ H10L.out.size H10L.out.list).mono ?_; rintro e W11 ⟨v11, rfl, g11, b11⟩; rw [EE.out] at g11; rw [← hL11.out] at g11; clear tok; have H11L : Hid (Ly w W11 n p mode size time c.toNat k v11 L11) := H10L.out.next g11 b11; clear H10L g11 b11 hL11)
  go_wp2_with (go_at_call 100; refine (rnumber_any10 (w.heap.size + 1) v11 L11 0 8 H0.out.1 (by omega) (by omega) H0.out.2.1 H0.out.2.2 (by rw [l11.out]; omega) _ H11L.out.size H11L.out.list).mono ?_; rintro e W12 ⟨v12, rfl, g12, b12⟩; rw [← hL12.out] at g12; have H12L : Hid (Ly w W12 n p mode size time c.toNat k v12 L12) := H11L.out.next g12 b12; clear H11L g12 b12 hL12)
  go_wp2_with (go_at_call 100; refine (rnumber_any10 (w.heap.size + 1) v12 L12 0 8 H0.out.1 (by omega) (by omega) H0.out.2.1 H0.out.2.2 (by rw [l12.out]; omega) _ H12L.out.size H12L.out.list).mono ?_; rintro e W13 ⟨v13, rfl, g13, b13⟩; rw [← hL13.out] at g13; have H13L : Hid (Ly w W13 n p mode size time c.toNat k v13 L13) := H12L.out.next g13 b13; clear H12L g13 b13 hL13; have c13 : W13.cell? ⟨w.heap.size, 1, none⟩ = some (.string p) := H13L.out.cell 1)
  go_wp2_with (go_at_call 99; have tok : w = w := rfl; refine (rtext_any (w.heap.size + 1) v13 L13 p 155 (by omega) HP.out (by rw [l13.out]; omega) _ H13L.out.size H13L.out.list).mono ?_; rintro e W14 ⟨v14, rfl, g14, b14⟩; rw [← hL14.out] at g14; clear tok; have H14L : Hid (Ly w W14 n p mode size time c.toNat k v14 L14) := H13L.out.next g14 b14; clear H13L g14 b14 hL14; clear c13)
  go_wp2_with (go_at_call 99; have tok : w = w := rfl; refine (rtext_any (w.heap.size + 1) v14 L14 (ByteArray.mk #[]) 12 (by omega) HE.out (by rw [l14.out]; omega) _ H14L.out.size H14L.out.list).mono ?_; rintro e W15 ⟨v15, rfl, g15, b15⟩; rw [EE.out] at g15; rw [← hL15.out] at g15; clear tok; have H15L : Hid (Ly w W15 n p mode size time c.toNat k v15 L15) := H14L.out.next g15 b15; clear H14L g15 b15 hL15)
  obtain ⟨A, cap, rfl, hc1, hc2, hr, -, -⟩ := H15L.out.list.row
  have HR : Hid (RowAt W15 A 512 (Hd.rowF L15)) := by rw [← l15.out]; exact hr
  rw [l15.out] at hc1
  rw [l15.out]
  clear hr
  go_wp2_with (go_at_call 101; refine (rSeal_any A cap L15 l15.out hc1 _ HR.out).mono ?_; rintro e W16 ⟨v16, rfl, g16, b16⟩)
  go_ret
  have e : Hd.layB ⟨n.toList, mode, size, time, c, k.toList, p.toList⟩ = Hd.sealB L15 := by rw [HRAW.out]; rfl
  rw [e]
  have hs15 := H15L.out.size
  refine ⟨v16, rfl, g16.lower (by omega), Bw.trans (bw_alloc7 (Bw.refl _) _) (Below.trans (Below.mono H15L.out.bw (by rw [size_alloc]; omega)) (Below.mono b16 (by rw [size_alloc]; omega)))⟩
theorem rlay_any (h : Hd.Hdr) (g : Hd.Good h) (w : World) : Calls Tryz.prog 77 #[.agg (Hd.hv h)] w fun e w' => ∃ v, e = .returned v ∧ GB w' w.heap.size v (Hd.layB h) ∧ Bw w w' := by
  have := rlay_x (Hd.S h.name) (Hd.S h.pre) (Hd.S h.link) h.mode h.size h.time h.typ (by rw [Hd.size_S]; exact g.name) (by rw [Hd.size_S]; exact g.link) (by rw [Hd.size_S]; exact g.pre) g.mode g.size g.time (by rw [Hd.toList_S, Hd.toList_S, Hd.toList_S]; exact g) w
  rw [Hd.toList_S, Hd.toList_S, Hd.toList_S] at this
  exact this
end Go.Proofs.YtldkhbkgmiicbaaGreatDoor

/- The document's own Put, Full, Blank and first, of layer 10. -/
namespace Go.Proofs.YtldkhbkgmiicbaaGreatDoor
open Go.RowKit Go.Deep
set_option linter.unusedVariables false
set_option linter.unusedSimpArgs false

/-- texts of a head that are not too long for any machine -/
structure Hd.Small (h : Hd.Hdr) : Prop where
  name : h.name.length ≤ 4611686018427387904
  link : h.link.length ≤ 4611686018427387904
  pre : h.pre.length ≤ 4611686018427387904
set_option maxRecDepth 100000 in
theorem rPut_any (h : Hd.Hdr) (hsm : Hd.Small h) (w : World) : Calls Tryz.prog 51 #[.agg (Hd.hv h)] w fun e w' =>
    (Hd.may h ≠ 0 → e = .returned (.tuple #[.slice none 0 0, .int .i64 ((Hd.may h : Nat) : Int)])) ∧ (Hd.may h = 0 → ∃ v, e = .returned (.tuple #[v, .int .i64 0]) ∧ GB w' w.heap.size v (Hd.layB h)) ∧ Bw w w' := by
  have hih := info_head h
  obtain ⟨W1, hW1⟩ : ∃ V, V = w.alloc (.cells (Hd.hv h) 61) := ⟨_, rfl⟩
  have hH1 : HeadAt W1 w.heap.size h := by rw [hW1]; exact heap_alloc_new _ _
  have hb1 : Bw w W1 := by rw [hW1]; exact bw_alloc7 (Bw.refl _) _
  obtain ⟨M, hM⟩ : ∃ M, Hid (M = Hd.may h) := ⟨_, rfl⟩
  rw [← hM.out]
  by_cases hm : M = 0
  · have HG : Hid (Hd.Good h) := Hd.may_good (h := h) (by rw [← hM.out]; exact hm)
    subst hm
    go_enter Tryz.func51, Tryz.ntmps51
    go_wp2_with (first
      | (rw [← hW1]; clear hW1; refine wpList_load_row rfl 61 _ rfl w.heap.size rfl 61 (Hd.hv h) (0, 0) _ hH1 Tryz.underlying61 rfl hih ?_)
      | (go_at_call 76; refine (rMay_any h hsm.name hsm.link hsm.pre _).mono ?_; rintro e w1 ⟨rfl, hw1⟩; rw [← hM.out]; have hH2 := hH1.keep hw1)
      | (refine wpList_load_row rfl 61 _ rfl w.heap.size rfl 61 (Hd.hv h) (0, 0) _ hH2 Tryz.underlying61 rfl hih ?_)
      | (go_at_call 77; refine (rlay_any h HG.out _).mono ?_; rintro e w2 ⟨v2, rfl, g2, hw2⟩))
    go_ret2
    have hb2 := hb1.trans hw1
    exact ⟨fun h => absurd rfl h, fun _ => ⟨v2, rfl, g2.lower hb2.size⟩, hb2.trans hw2⟩
  · have HM : Hid (M ≠ 0) := hm
    have e1 : ((M : Int) != 0) = true := by rw [bne_iff_ne]; omega
    clear hm
    go_enter Tryz.func51, Tryz.ntmps51
    go_wp2_with (first
      | (rw [← hW1]; clear hW1; refine wpList_load_row rfl 61 _ rfl w.heap.size rfl 61 (Hd.hv h) (0, 0) _ hH1 Tryz.underlying61 rfl hih ?_)
      | (go_at_call 76; refine (rMay_any h hsm.name hsm.link hsm.pre _).mono ?_; rintro e w1 ⟨rfl, hw1⟩; rw [← hM.out]))
    go_ret2
    exact ⟨fun _ => rfl, fun h => absurd h HM.out, hb1.trans hw1⟩
end Go.Proofs.YtldkhbkgmiicbaaGreatDoor

/- Texts of mine, put together. -/
import Derived.Test.YtldkhbkgmiicbabGreatDoorBu30
import Derived.Test.YtldkhbkgmiicbabGreatDoorBu12
import Derived.Test.YtldkhbkgmiicbabGreatDoorBu16
import Derived.Test.YtldkhbkgmiicbabGreatDoorBu20
import Derived.Test.YtldkhbkgmiicbabGreatDoorBu28
import Derived.Test.YtldkhbkgmiicbabGreatDoorBu17
import Derived.Test.YtldkhbkgmiicbabGreatDoorBu18
import Derived.Test.YtldkhbkgmiicbabGreatDoorBu15
import Derived.Lib.AppendStr
import Derived.Deep.CutRange
import Derived.Lib.AppendZeros

/- Layer 12: the program's own Write and Size, as landed at 16cf8173. -/
namespace Go.Proofs.YtldkhbkgmiicbabGreatDoor
open Go.RowKit Go.Deep
set_option linter.unusedVariables false
set_option linter.unusedSimpArgs false

/-- what Write answers -/
def WriteEnds (t : List Tr.It) (base : Nat) (e : Ending) (w' : World) : Prop := ∃ u, e = .returned (.tuple #[u, .int .i64 ((Pk.wr t).2.1 : Int), .int .i64 (Pk.wr t).2.2]) ∧ w'.ownsRow base 5 1 u (Pk.wr t).1.length (Lib.byteCells (Pk.wr t).1)
theorem Pk.wr_err {t : List Tr.It} (h : (Pk.wr t).2.2 ≠ 0) : (Pk.wr t).1 = [] := by
  rcases Pk.wr_cases t with ⟨_, e⟩ | ⟨_, i, _, e⟩ | ⟨_, g, e⟩
  · rw [e]
  · rw [e]
  · rw [e] at h; exact absurd rfl h
set_option maxRecDepth 100000 in
set_option maxHeartbeats 2000000 in
theorem pkwrite_any (A : Option Addr) (cap : Nat) (L : List Tr.Iv) (hn : L.length ≤ 4611686018427387904) (hcap : L.length ≤ cap) (w : World) (ha : ItsAt w A L) (hk : KTAt w) :
    Calls Tryz.prog 7 #[.slice A L.length cap] w fun e w' => WriteEnds (Tr.its L) w.heap.size e w' ∧ Bw w w' := by
  obtain ⟨n, hnn⟩ : ∃ n, Hid (L.length = n) := ⟨_, rfl⟩
  have HW0 : Hid (∀ u, Bw w u → Calls Tryz.prog 19 #[.slice A n cap] u fun e w' => WrEnds (Tr.its L) u.heap.size e w' ∧ Bw u w') := fun u hu => by
    have := written_any A cap L hn hcap u (ha.keep hu) (hk.keep hu)
    rwa [hnn.out] at this
  rw [hnn.out] at hn hcap ⊢
  clear ha hk
  have hz := zero_roll
  obtain ⟨wb, wi, we, hwr⟩ : ∃ a b c, Hid (Pk.wr (Tr.its L) = (a, b, c)) := ⟨_, _, _, show Pk.wr (Tr.its L) = _ from rfl⟩
  by_cases h0 : we = 0
  · have HW : Hid (∀ u, Bw w u → Calls Tryz.prog 19 #[.slice A n cap] u fun e w' => (∃ A0 m0 c0, e = .returned (.tuple #[.agg #[.slice A0 m0 c0, .int .i64 ((Pk.flat (Tr.its L)).length : Int)], .int .i64 0, .int .i64 0]) ∧ RollOwn w' u.heap.size (.slice A0 m0 c0) (Pk.flat (Tr.its L))) ∧ Bw u w') := fun u hu => (HW0.out u hu).mono fun e w' ⟨h, hb⟩ => by
      rcases h with ⟨h1, _⟩ | ⟨_, _, _, h4⟩
      · rw [hwr.out] at h1; exact absurd h0 h1
      · exact ⟨h4, hb⟩
    have hw3 : Pk.wr (Tr.its L) = (Pk.flat (Tr.its L) ++ List.replicate 1024 0, 0, 0) ∧ (Pk.flat (Tr.its L)).length + 1024 ≤ 131072 := by
      rcases Pk.wr_cases (Tr.its L) with ⟨h1, e⟩ | ⟨_, i, _, e⟩ | ⟨_, g, e⟩
      · rw [e] at hwr; have := hwr.out; cases this; exact absurd h0 h1
      · rw [e] at hwr; have := hwr.out; cases this; cases h0
      · exact ⟨e, by have := g.2.2; rwa [List.take_length] at this⟩
    obtain ⟨F, hF⟩ : ∃ F : Pk.B, Hid (Pk.flat (Tr.its L) = F) := ⟨_, rfl⟩
    rw [hF.out] at HW hw3
    have hFl := hw3.2
    have HWR : Hid (Pk.wr (Tr.its L) = (F ++ List.replicate 1024 0, 0, 0)) := hw3.1
    clear hw3 h0 HW0
    go_enter Tryz.func7, Tryz.ntmps7
    go_wp2_with (first
      | (go_at_call 19; refine (HW.out _ (Bw.refl _)).mono ?_; rintro e w1 ⟨⟨A0, m0, c0, rfl, ho1⟩, hw1⟩)
      | (refine wpList_store_row rfl 54 _ _ rfl w1.heap.size #[.slice A0 m0 c0, .int .i64 (F.length : Int)] rfl rfl 54 _ (heap_alloc_new _ _) (info_roll _ _) rfl (roll_one _ _ _ _) ?_; rw [setRow_alloc_new]; obtain ⟨w2, hw2⟩ : ∃ V, V = w1.alloc (.cells #[.slice A0 m0 c0, .int .i64 (F.length : Int)] 54) := ⟨_, rfl⟩; have hb2 : Bw w1 w2 := (by rw [hw2]; exact bw_alloc7 (Bw.refl _) _); have hA2 : w2.heap[w1.heap.size]? = some (.cells #[.slice A0 m0 c0, .int .i64 (F.length : Int)] 54 (0, 0)) := (by rw [hw2]; exact heap_alloc_new _ _); rw [← hw2]; clear hw2)
      | (go_at_call 20; refine (bytes_any w1.heap.size (.slice A0 m0 c0) F hFl _ hA2 w.heap.size ⟨ho1.1, own_keep ho1.2 hb2⟩).mono ?_; rintro e w3 ⟨⟨u, rfl, hu⟩, hw3⟩))
    refine bodyPost_ret (results_tmp3 rfl _ _ _) rfl ?_
    refine ⟨⟨u, by rw [HWR.out]; rfl, ?_⟩, (hw1.trans hb2).trans hw3⟩
    rw [HWR.out]
    show World.ownsRow _ _ _ _ _ (F ++ List.replicate 1024 0).length _
    rw [List.length_append, List.length_replicate]
    exact own_lower9 hu (hw1.trans hb2).size
  · have HW : Hid (∀ u, Bw w u → Calls Tryz.prog 19 #[.slice A n cap] u fun e w' => e = .returned (.tuple #[.agg #[.slice none 0 0, .int .i64 0], .int .i64 (wi : Int), .int .i64 we]) ∧ Bw u w') := fun u hu => (HW0.out u hu).mono fun e w' ⟨h, hb⟩ => by
      rcases h with ⟨_, h2⟩ | ⟨h3, _⟩
      · rw [hwr.out] at h2; exact ⟨h2, hb⟩
      · rw [hwr.out] at h3; exact absurd h3 h0
    have hnil : Hid (wb = []) := by have := Pk.wr_err (t := Tr.its L) (by rw [hwr.out]; exact h0); rw [hwr.out] at this; exact this
    have e1 : (we != 0) = true := by rw [bne_iff_ne]; exact h0
    clear h0 HW0
    go_enter Tryz.func7, Tryz.ntmps7
    go_wp2_with (first
      | (go_at_call 19; refine (HW.out _ (Bw.refl _)).mono ?_; rintro e w1 ⟨rfl, hw1⟩)
      | (refine wpList_store_row rfl 54 _ _ rfl w1.heap.size #[.slice none 0 0, .int .i64 0] rfl rfl 54 _ (heap_alloc_new _ _) (info_roll _ _) rfl (roll_one _ _ _ _) ?_; rw [setRow_alloc_new]; obtain ⟨w2, hw2⟩ : ∃ V, V = w1.alloc (.cells #[.slice none 0 0, .int .i64 0] 54) := ⟨_, rfl⟩; have hb2 : Bw w1 w2 := (by rw [hw2]; exact bw_alloc7 (Bw.refl _) _); have hA2 : w2.heap[w1.heap.size]? = some (.cells #[.slice none 0 0, .int .i64 0] 54 (0, 0)) := (by rw [hw2]; exact heap_alloc_new _ _); rw [← hw2]; clear hw2))
    refine bodyPost_ret (results_tmp3 rfl _ _ _) rfl ?_
    refine ⟨⟨_, by rw [hwr.out]; rfl, ?_⟩, hw1.trans hb2⟩
    rw [hwr.out, hnil.out]
    exact World.ownsRow_nil _ _ _ _
set_option maxRecDepth 100000 in
set_option maxHeartbeats 2000000 in
theorem pksize_any (A : Option Addr) (cap : Nat) (L : List Tr.Iv) (hn : L.length ≤ 4611686018427387904) (hcap : L.length ≤ cap) (w : World) (ha : ItsAt w A L) (hk : KTAt w) :
    Calls Tryz.prog 14 #[.slice A L.length cap] w fun e w' => e = .returned (.tuple #[.int .i64 ((Pk.wr (Tr.its L)).1.length : Int), .int .i64 (Pk.wr (Tr.its L)).2.2]) ∧ Bw w w' := by
  obtain ⟨n, hnn⟩ : ∃ n, Hid (L.length = n) := ⟨_, rfl⟩
  have HW0 : Hid (∀ u, Bw w u → Calls Tryz.prog 19 #[.slice A n cap] u fun e w' => WrEnds (Tr.its L) u.heap.size e w' ∧ Bw u w') := fun u hu => by
    have := written_any A cap L hn hcap u (ha.keep hu) (hk.keep hu)
    rwa [hnn.out] at this
  rw [hnn.out] at hn hcap ⊢
  clear ha hk
  have hz := zero_roll
  obtain ⟨wb, wi, we, hwr⟩ : ∃ a b c, Hid (Pk.wr (Tr.its L) = (a, b, c)) := ⟨_, _, _, show Pk.wr (Tr.its L) = _ from rfl⟩
  by_cases h0 : we = 0
  · have HW : Hid (∀ u, Bw w u → Calls Tryz.prog 19 #[.slice A n cap] u fun e w' => (∃ A0 m0 c0, e = .returned (.tuple #[.agg #[.slice A0 m0 c0, .int .i64 ((Pk.flat (Tr.its L)).length : Int)], .int .i64 0, .int .i64 0]) ∧ RollOwn w' u.heap.size (.slice A0 m0 c0) (Pk.flat (Tr.its L))) ∧ Bw u w') := fun u hu => (HW0.out u hu).mono fun e w' ⟨h, hb⟩ => by
      rcases h with ⟨h1, _⟩ | ⟨_, _, _, h4⟩
      · rw [hwr.out] at h1; exact absurd h0 h1
      · exact ⟨h4, hb⟩
    have hw3 : Pk.wr (Tr.its L) = (Pk.flat (Tr.its L) ++ List.replicate 1024 0, 0, 0) ∧ (Pk.flat (Tr.its L)).length + 1024 ≤ 131072 := by
      rcases Pk.wr_cases (Tr.its L) with ⟨h1, e⟩ | ⟨_, i, _, e⟩ | ⟨_, g, e⟩
      · rw [e] at hwr; have := hwr.out; cases this; exact absurd h0 h1
      · rw [e] at hwr; have := hwr.out; cases this; cases h0
      · exact ⟨e, by have := g.2.2; rwa [List.take_length] at this⟩
    obtain ⟨F, hF⟩ : ∃ F : Pk.B, Hid (Pk.flat (Tr.its L) = F) := ⟨_, rfl⟩
    rw [hF.out] at HW hw3
    have hFl := hw3.2
    have HWR : Hid (Pk.wr (Tr.its L) = (F ++ List.replicate 1024 0, 0, 0)) := hw3.1
    clear hw3 h0 HW0
    go_enter Tryz.func14, Tryz.ntmps14
    go_wp2_with (first
      | (go_at_call 19; refine (HW.out _ (Bw.refl _)).mono ?_; rintro e w1 ⟨⟨A0, m0, c0, rfl, ho1⟩, hw1⟩)
      | (refine wpList_store_row rfl 54 _ _ rfl w1.heap.size #[.slice A0 m0 c0, .int .i64 (F.length : Int)] rfl rfl 54 _ (heap_alloc_new _ _) (info_roll _ _) rfl (roll_one _ _ _ _) ?_; rw [setRow_alloc_new]; obtain ⟨w2, hw2⟩ : ∃ V, V = w1.alloc (.cells #[.slice A0 m0 c0, .int .i64 (F.length : Int)] 54) := ⟨_, rfl⟩; have hb2 : Bw w1 w2 := (by rw [hw2]; exact bw_alloc7 (Bw.refl _) _); have hA2 : w2.heap[w1.heap.size]? = some (.cells #[.slice A0 m0 c0, .int .i64 (F.length : Int)] 54 (0, 0)) := (by rw [hw2]; exact heap_alloc_new _ _); rw [← hw2]; clear hw2; have c1 : w2.cell? ⟨w1.heap.size, 1, none⟩ = some (.int .i64 (F.length : Int)) := cell_of_row w2 _ 1 _ _ _ hA2))
    go_ret2
    refine ⟨?_, hw1.trans hb2⟩
    rw [HWR.out]
    show _ = Ending.returned (.tuple #[.int .i64 ((F ++ List.replicate 1024 0).length : Int), .int .i64 0])
    rw [List.length_append, List.length_replicate]
    rfl
  · have HW : Hid (∀ u, Bw w u → Calls Tryz.prog 19 #[.slice A n cap] u fun e w' => e = .returned (.tuple #[.agg #[.slice none 0 0, .int .i64 0], .int .i64 (wi : Int), .int .i64 we]) ∧ Bw u w') := fun u hu => (HW0.out u hu).mono fun e w' ⟨h, hb⟩ => by
      rcases h with ⟨_, h2⟩ | ⟨h3, _⟩
      · rw [hwr.out] at h2; exact ⟨h2, hb⟩
      · rw [hwr.out] at h3; exact absurd h3 h0
    have hnil : Hid (wb = []) := by have := Pk.wr_err (t := Tr.its L) (by rw [hwr.out]; exact h0); rw [hwr.out] at this; exact this
    have e1 : (we != 0) = true := by rw [bne_iff_ne]; exact h0
    clear h0 HW0
    go_enter Tryz.func14, Tryz.ntmps14
    go_wp2_with (first
      | (go_at_call 19; refine (HW.out _ (Bw.refl _)).mono ?_; rintro e w1 ⟨rfl, hw1⟩)
      | (refine wpList_store_row rfl 54 _ _ rfl w1.heap.size #[.slice none 0 0, .int .i64 0] rfl rfl 54 _ (heap_alloc_new _ _) (info_roll _ _) rfl (roll_one _ _ _ _) ?_; rw [setRow_alloc_new]; obtain ⟨w2, hw2⟩ : ∃ V, V = w1.alloc (.cells #[.slice none 0 0, .int .i64 0] 54) := ⟨_, rfl⟩; have hb2 : Bw w1 w2 := (by rw [hw2]; exact bw_alloc7 (Bw.refl _) _); have hA2 : w2.heap[w1.heap.size]? = some (.cells #[.slice none 0 0, .int .i64 0] 54 (0, 0)) := (by rw [hw2]; exact heap_alloc_new _ _); rw [← hw2]; clear hw2))
    go_ret2
    refine ⟨?_, hw1.trans hb2⟩
    rw [hwr.out, hnil.out]
    rfl
end Go.Proofs.YtldkhbkgmiicbabGreatDoor

/- The statements' helpers of layer 11: whether a lent list was kept. -/
namespace Go.Proofs.YtldkhbkgmiicbabGreatDoor
open Go.RowKit Go.Deep
set_option linter.unusedVariables false
set_option linter.unusedSimpArgs false

end Go.Proofs.YtldkhbkgmiicbabGreatDoor

/- The document's own nul, Sum, text, number and Seal, of layer 10. -/
namespace Go.Proofs.YtldkhbkgmiicbabGreatDoor
open Go.RowKit Go.Deep
set_option linter.unusedVariables false
set_option linter.unusedSimpArgs false

/-- a list of bytes of the call's own, made since the block base -/
def GB (w : World) (base : Nat) (v : Value) (L : Hd.B) : Prop := w.ownsRow base 5 1 v L.length (Lib.byteCells L)
theorem GB.keep {w w' : World} {base : Nat} {v : Value} {L : Hd.B} (h : GB w base v L) (b : Bw w w') : GB w' base v L := own_keep h b
theorem GB.row {w : World} {base : Nat} {v : Value} {L : Hd.B} (h : GB w base v L) : ∃ A cap, v = .slice A L.length cap ∧ L.length ≤ cap ∧ cap ≤ maxLen ∧ RowAt w A L.length (Hd.rowF L) ∧ (∀ a, A = some a → base ≤ a.block ∧ a.block < w.heap.size) ∧ (A = none → cap = 0) := by
  have h' := h
  unfold GB at h
  rw [← Hd.cells_row] at h
  obtain ⟨A, cap, hv, h1, h2, h3, h4⟩ := row_of_own (Hd.rowF_bd L) h
  refine ⟨A, cap, hv, h1, h2, h3, h4, fun e => ?_⟩
  subst e
  rcases h'.2 with ⟨e, _⟩ | ⟨g, c, cur, e, _⟩
  · rw [hv] at e; injection e
  · rw [hv] at e; injection e with e1; cases e1
theorem GB.nil (w : World) (base : Nat) : GB w base (.slice none 0 0) [] := World.ownsRow_nil _ _ _ _
end Go.Proofs.YtldkhbkgmiicbabGreatDoor

/- The document's own May, of layer 10 (written by mkmay10.py). -/
namespace Go.Proofs.YtldkhbkgmiicbabGreatDoor
open Go.RowKit Go.Deep
set_option linter.unusedVariables false
set_option linter.unusedSimpArgs false

attribute [local go_sem] List.getElem?_cons_zero Option.getD_some
end Go.Proofs.YtldkhbkgmiicbabGreatDoor

/- The document's own Seal, lay and Put, of layer 10 (written by mkrlay10.py). -/
namespace Go.Proofs.YtldkhbkgmiicbabGreatDoor
open Go.RowKit Go.Deep
set_option linter.unusedVariables false
set_option linter.unusedSimpArgs false

/-- a world within lay: the struct and the list -/
structure Ly (w W : World) (n p : ByteArray) (m s t : Int) (c : Nat) (k : ByteArray) (v : Value) (L : Hd.B) : Prop where
  cell : ∀ i, W.cell? ⟨w.heap.size, i, none⟩ = (#[.string n, .string p, .int .i64 m, .int .i64 s, .int .i64 t, .int .u8 (c : Int), .string k] : Array Value)[i]?
  list : GB W (w.heap.size + 1) v L
  bw : Below (w.heap.size + 1) (w.alloc (.cells #[.string n, .string p, .int .i64 m, .int .i64 s, .int .i64 t, .int .u8 (c : Int), .string k] 75)) W
theorem Ly.mk' {w W : World} {n p : ByteArray} {m s t : Int} {c : Nat} {k : ByteArray} {v : Value} {L : Hd.B} (l : GB W (w.heap.size + 1) v L) (b : Below (w.heap.size + 1) (w.alloc (.cells #[.string n, .string p, .int .i64 m, .int .i64 s, .int .i64 t, .int .u8 (c : Int), .string k] 75)) W) : Ly w W n p m s t c k v L :=
  ⟨fun i => cell_of_row W w.heap.size i _ _ _ ((b.block w.heap.size (by omega)).trans (heap_alloc_new _ _)), l, b⟩
theorem Ly.next {w W W' : World} {n p : ByteArray} {m s t : Int} {c : Nat} {k : ByteArray} {v v' : Value} {L L' : Hd.B} (h : Ly w W n p m s t c k v L) (l : GB W' (w.heap.size + 1) v' L') (b : Below (w.heap.size + 1) W W') : Ly w W' n p m s t c k v' L' := Ly.mk' l (Below.trans h.bw b)
theorem Ly.size {w W : World} {n p : ByteArray} {m s t : Int} {c : Nat} {k : ByteArray} {v : Value} {L : Hd.B} (h : Ly w W n p m s t c k v L) : w.heap.size + 1 ≤ W.heap.size := by have := h.bw.size; rw [size_alloc] at this; exact this
end Go.Proofs.YtldkhbkgmiicbabGreatDoor

/- The document's own Put, Full, Blank and first, of layer 10. -/
namespace Go.Proofs.YtldkhbkgmiicbabGreatDoor
open Go.RowKit Go.Deep
set_option linter.unusedVariables false
set_option linter.unusedSimpArgs false

/-- texts of a head that are not too long for any machine -/
structure Hd.Small (h : Hd.Hdr) : Prop where
  name : h.name.length ≤ 4611686018427387904
  link : h.link.length ≤ 4611686018427387904
  pre : h.pre.length ≤ 4611686018427387904
end Go.Proofs.YtldkhbkgmiicbabGreatDoor

/- Layer 12: the document's own Filled and typed. -/
namespace Go.Proofs.YtldkhbkgmiicbabGreatDoor
open Go.RowKit Go.Deep
set_option linter.unusedVariables false
set_option linter.unusedSimpArgs false

theorem byteCells_zeros (m : Nat) : Lib.byteCells (List.replicate m 0) = List.replicate m (Value.int .u8 0) := by
  unfold Lib.byteCells; rw [List.map_replicate]; rfl
theorem own_slice12 {W : World} {base : Nat} {e : TypeId} {s n : Nat} {v : Value} {xs : List Value} (h : W.ownsRow base e s v n xs) : ∃ A c, v = .slice A n c := by
  rcases h.2 with ⟨rfl, rfl⟩ | ⟨g, cap, cur, rfl, _⟩
  · exact ⟨_, _, rfl⟩
  · exact ⟨_, _, rfl⟩
end Go.Proofs.YtldkhbkgmiicbabGreatDoor

/- What HeadKnown's heads and rows are read as; its helper refused. -/
import Derived.Test.YtkoacehgfmflmabX2
namespace Go.Proofs.Ytkoacehgfmflmab
open Go.RowKit Go.Deep
set_option linter.unusedVariables false
set_option linter.unusedSimpArgs false
namespace Hd
theorem reads_sum {b : B} (hl : b.length = 512) (hm : (b.drop 257).take 8 = ustar) (hs : sealB b ≠ b) : Reads b none 101 :=
  ⟨fun h => absurd hl h, fun _ h => absurd hm h, fun _ _ _ => ⟨rfl, rfl⟩, fun _ _ h => absurd h hs, fun _ _ h => absurd h hs⟩
theorem reads_word {b : B} (hl : b.length = 512) (hm : (b.drop 257).take 8 ≠ ustar) : Reads b none 100 :=
  ⟨fun h => absurd hl h, fun _ _ => ⟨rfl, rfl⟩, fun _ h => absurd h hm, fun _ h => absurd h hm, fun _ h => absurd h hm⟩
theorem reads_no {b : B} (hl : b.length = 512) (hm : (b.drop 257).take 8 = ustar) (hs : sealB b = b) (hn : ∀ k, Good k → layB k ≠ b) : Reads b none 100 :=
  ⟨fun h => absurd hl h, fun _ h => absurd hm h, fun _ _ h => absurd hs h, fun _ _ _ k g e => absurd e (hn k g), fun _ _ _ _ => ⟨rfl, rfl⟩⟩
/-- the rows of the examples, one after another -/
def c1 : B := (layB small).set 0 98
def c2 : B := c1.set 0 97
def c3 : B := c2.set 100 32
def c4 : B := c3.set 100 48
def c5 : B := c4.set 500 1
def smallb : Hdr := ⟨[98], 420, 3, 0, 48, [], []⟩
theorem smallb_good : Good smallb := may_good (by decide)
theorem c1_len : c1.length = 512 := by decide +kernel
theorem c2_len : c2.length = 512 := by unfold c2; rw [List.length_set, c1_len]
theorem c3_len : c3.length = 512 := by unfold c3; rw [List.length_set, c2_len]
theorem c4_len : c4.length = 512 := by unfold c4; rw [List.length_set, c3_len]
theorem c5_len : c5.length = 512 := by unfold c5; rw [List.length_set, c4_len]
theorem c1_reads : Reads c1 none 101 := reads_sum c1_len (by decide +kernel) (by decide +kernel)
theorem c1_seal : sealB c1 = layB smallb := by decide +kernel
theorem c3_reads : Reads (sealB c3) none 100 := by
  refine reads_no (by rw [seal_len (by rw [c3_len]; omega), c3_len]) (by decide +kernel) (seal_seal (by rw [c3_len]; omega)) fun k g e => ?_
  have h := lay_mode g
  rw [e] at h
  have h0 : (((sealB c3).drop 100).take 8)[0]? = some 32 := by decide +kernel
  rw [h, numB_at (by omega)] at h0
  have m := g.mode
  have m1 : k.mode.toNat < 8 ^ (8 - 1) := by have : (8 : Nat) ^ (8 - 1) = 2097152 := by decide
                                             omega
  have e2 : nb k.mode.toNat 8 0 = 48 + k.mode.toNat / 8 ^ 6 % 8 := by unfold nb; rw [if_pos m1, if_pos (by omega)]
  have h1 := congrArg UInt8.toNat (Option.some.inj h0)
  rw [e2, UInt8.toNat_ofNat'] at h1
  have : (32 : UInt8).toNat = 32 := rfl
  omega
theorem c5_reads : Reads (sealB c5) none 100 := by
  refine reads_no (by rw [seal_len (by rw [c5_len]; omega), c5_len]) (by decide +kernel) (seal_seal (by rw [c5_len]; omega)) fun k g e => ?_
  have h := slice_after g (i := 7) (p := pad [] 12) rfl 344 (by simp [after, pad_len g.link, pad_len g.pre, numB_len, pad_len (show ustar.length ≤ 8 by decide), pad_len (show ([] : B).length ≤ 64 by decide)])
  rw [e] at h
  have h0 : (((sealB c5).drop (156 + 344)).take (pad [] 12).length)[0]? = some 1 := by decide +kernel
  rw [h] at h0
  exact absurd h0 (by decide)
theorem zeros_reads : Reads zeros none 100 := reads_word (by decide +kernel) (by decide +kernel)
theorem zeros_sum : sumB zeros = 256 := by decide +kernel
/-- the heads of the examples -/
def ns (k : Nat) : B := List.replicate k 110
def kx : Hdr := ⟨[97], 420, 3, 0, 51, [], []⟩
def ky : Hdr := ⟨(97 :: ns 100), 420, 3, 0, 48, [], []⟩
def kz : Hdr := ⟨[97], 4096, 3, 0, 48, [], []⟩
def lng : B := (97 :: ns 100) ++ (97 :: ns 53)
def wide : Hdr := ⟨(97 :: ns 99), 0, 0, 1099511627776, 50, (97 :: ns 99), lng⟩
def wider : Hdr := ⟨(97 :: ns 99), 0, 0, 1099511627776, 50, (97 :: ns 99), lng ++ [120]⟩
def kf : Hdr := ⟨[97], 0, 0, 0, 0, [], [112, 47, 113]⟩
theorem may_kx : may kx = 102 := by decide +kernel
theorem may_ky : may ky = 2 := by decide +kernel
theorem may_kz : may kz = 1 := by decide +kernel
theorem may_wide : may wide = 0 := by decide +kernel
theorem may_wider : may wider = 2 := by decide +kernel
theorem wide_good : Good wide := may_good may_wide
theorem lng_len : lng.length = 155 := by decide +kernel
end Hd
theorem HeadAt.keepx {S : Nat → Prop} {w w' : World} {g : Nat} {h : Hd.Hdr} (a : HeadAt w g h) (b : Bx S w w') (hg : ¬ S g) : HeadAt w' g h := (b.block g (Array.getElem?_eq_some_iff.1 a).1 hg).trans a
theorem HeadAt.lt {w : World} {g : Nat} {h : Hd.Hdr} (a : HeadAt w g h) : g < w.heap.size := (Array.getElem?_eq_some_iff.1 a).1
theorem HeadAt.store {w : World} {g : Nat} {h : Hd.Hdr} (a : HeadAt w g h) (i : Nat) (v : Value) (k : Hd.Hdr) (e : (Hd.hv h).setIfInBounds i v = Hd.hv k) : HeadAt (w.setCell ⟨g, i, none⟩ v) g k := by
  have := heap_setCell_same w g i _ _ v a
  rw [e] at this
  exact this
theorem HeadAt.cell {w : World} {g : Nat} {h : Hd.Hdr} (a : HeadAt w g h) (i : Nat) (v : Value) (e : (Hd.hv h)[i]? = some v) : w.cell? ⟨g, i, none⟩ = some v ∧ w.frozen? ⟨g, i, none⟩ = false :=
  ⟨(cell_of_row w g i _ _ _ a).trans e, frozen_of_row w g i _ _ a⟩
theorem arr_set10 {w : World} {g : Nat} {l : Hd.B} (h : ArrAt w g l) (o : Nat) (c : UInt8) (z : Int) (hz : z = (c.toNat : Int)) (ho : o < l.length) : ArrAt (w.setCell ⟨g, o, none⟩ (.int .u8 z)) g (l.set o c) := by
  rw [hz, Hd.set_ovl ho]; exact arr_store h c ho
theorem bw_put {w w' : World} (h : Bw w w') (g i : Nat) (v : Value) (hg : w.heap.size ≤ g) : Bw w (w'.setCell ⟨g, i, none⟩ v) :=
  bw_of_bx h (Bx.put (S := fun b => b = g) (Bx.refl _ _) rfl) (fun k e => by omega)
theorem bx_one (w : World) (g i : Nat) (v : Value) : Bx (fun b => b = g) w (w.setCell ⟨g, i, none⟩ v) := Bx.put (Bx.refl _ _) rfl
theorem Hd.zeros_take (k i : Nat) : Hd.rowF (Hd.zeros.take k) i = 0 := by
  unfold Hd.rowF Hd.zeros
  rw [List.take_replicate, List.getD_eq_getElem?_getD, List.getElem?_replicate]
  split <;> rfl
def Hd.zero1 : Hd.B := Hd.zeros.take 511
theorem Hd.zero1_len : Hd.zero1.length = 511 := by decide +kernel
theorem Hd.zero1_not : (Hd.zero1 == Hd.zeros) = false := by decide +kernel
theorem Hd.zeros_is : (Hd.zeros == Hd.zeros) = true := beq_self_eq_true _
/-- the row that make([]byte, 512) lays, whole and without its last byte -/
theorem made512 : ∃ M : Array Value, (∀ w : World, (Instr.makeSlice 25 (.int .i64 512) (.int .i64 512)).run Try.prog w = .ok (.slice (some ⟨w.heap.size, 0, none⟩) 512 512) (w.alloc (.cells M 5))) ∧ (∀ w : World, RowAt (w.alloc (.cells M 5)) (some ⟨w.heap.size, 0, none⟩) 512 (Hd.rowF Hd.zeros)) ∧ (∀ w : World, RowAt (w.alloc (.cells M 5)) (some ⟨w.heap.size, 0, none⟩) 511 (Hd.rowF Hd.zero1)) := by
  obtain ⟨M, -, m2, m3⟩ := made_bytes 512 (by omega)
  refine ⟨M, m3, fun w => row_new w M _ 512 _ (Hd.rowF_bd _) fun i hi => ?_, fun w => row_new w M _ 511 _ (Hd.rowF_bd _) fun i hi => ?_⟩
  · rw [m2 i hi, show Hd.rowF Hd.zeros i = 0 by have := Hd.zeros_take 512 i; rwa [List.take_of_length_le (by rw [zeros_len]; omega)] at this]
  · rw [m2 i (by omega), show Hd.rowF Hd.zero1 i = 0 from Hd.zeros_take 511 i]
theorem Hd.append_S (a b : Hd.B) : Hd.S a ++ Hd.S b = Hd.S (a ++ b) := by
  apply ByteArray.ext
  rw [ByteArray.data_append]
  unfold Hd.S
  simp
theorem alloc3 (w : World) (a : Obj) : ((((w.alloc a).alloc a).alloc a).heap[w.heap.size]? = some a ∧ (((w.alloc a).alloc a).alloc a).heap[w.heap.size + 1]? = some a ∧ (((w.alloc a).alloc a).alloc a).heap[w.heap.size + 1 + 1]? = some a ∧ (((w.alloc a).alloc a).alloc a).heap.size = w.heap.size + 3 ∧ Bw w (((w.alloc a).alloc a).alloc a)) := by
  have s1 : (w.alloc a).heap.size = w.heap.size + 1 := size_alloc _ _
  have s2 : ((w.alloc a).alloc a).heap.size = w.heap.size + 1 + 1 := by rw [size_alloc, s1]
  refine ⟨?_, ?_, ?_, by rw [size_alloc, s2], bw_alloc7 (bw_alloc7 (bw_alloc7 (Bw.refl _) _) _) _⟩
  · rw [heap_alloc_old _ _ (by omega), heap_alloc_old _ _ (by omega)]; exact heap_alloc_new _ _
  · rw [heap_alloc_old _ _ (by omega), ← s1]; exact heap_alloc_new _ _
  · rw [← s2]; exact heap_alloc_new _ _
theorem heads3 {W : World} {g : Nat} {N : Array Value} (d : Hd.Hdr) (q1 : W.heap[g]? = some (.cells N 23)) (q2 : W.heap[g + 1]? = some (.cells N 23)) (q3 : W.heap[g + 1 + 1]? = some (.cells N 23)) (hN : N.size = 7) :
    (W.setRow g (Hd.hv d)).heap[g + 1]? = some (.cells N 23) ∧ ((W.setRow g (Hd.hv d)).setRow (g + 1) (Hd.hv d)).heap[g + 1 + 1]? = some (.cells N 23) ∧ HeadAt (((W.setRow g (Hd.hv d)).setRow (g + 1) (Hd.hv d)).setRow (g + 1 + 1) (Hd.hv d)) g d ∧ HeadAt (((W.setRow g (Hd.hv d)).setRow (g + 1) (Hd.hv d)).setRow (g + 1 + 1) (Hd.hv d)) (g + 1) d ∧ HeadAt (((W.setRow g (Hd.hv d)).setRow (g + 1) (Hd.hv d)).setRow (g + 1 + 1) (Hd.hv d)) (g + 1 + 1) d ∧ Bx (fun b => g ≤ b ∧ b ≤ g + 1 + 1) W (((W.setRow g (Hd.hv d)).setRow (g + 1) (Hd.hv d)).setRow (g + 1 + 1) (Hd.hv d)) := by
  have x1 : Bx (fun b => b = g) W (W.setRow g (Hd.hv d)) := bx_set _ _ _ rfl
  have l1 := (Array.getElem?_eq_some_iff.1 q1).1
  have l2 := (Array.getElem?_eq_some_iff.1 q2).1
  have l3 := (Array.getElem?_eq_some_iff.1 q3).1
  have a1 : HeadAt (W.setRow g (Hd.hv d)) g d := setRow_heap W g _ _ _ _ q1
  have a2 := (x1.block (g + 1) l2 (by omega)).trans q2
  have a3 := (x1.block (g + 1 + 1) l3 (by omega)).trans q3
  obtain ⟨W1, hW1⟩ : ∃ V, V = W.setRow g (Hd.hv d) := ⟨_, rfl⟩
  rw [← hW1] at a1 a2 a3 ⊢
  have x2 : Bx (fun b => b = g + 1) W1 (W1.setRow (g + 1) (Hd.hv d)) := bx_set _ _ _ rfl
  have b1 := a1.keepx x2 (by omega)
  have b2 : HeadAt (W1.setRow (g + 1) (Hd.hv d)) (g + 1) d := setRow_heap W1 (g + 1) _ _ _ _ a2
  have b3 := (x2.block (g + 1 + 1) (Array.getElem?_eq_some_iff.1 a3).1 (by omega)).trans a3
  obtain ⟨W2, hW2⟩ : ∃ V, V = W1.setRow (g + 1) (Hd.hv d) := ⟨_, rfl⟩
  rw [← hW2] at b1 b2 b3 ⊢
  have x3 : Bx (fun b => b = g + 1 + 1) W2 (W2.setRow (g + 1 + 1) (Hd.hv d)) := bx_set _ _ _ rfl
  refine ⟨a2, b3, b1.keepx x3 (by omega), b2.keepx x3 (by omega), setRow_heap W2 (g + 1 + 1) _ _ _ _ b3, ?_⟩
  have y1 : Bx (fun b => g ≤ b ∧ b ≤ g + 1 + 1) W W1 := by rw [hW1]; exact bx_set _ _ _ (by omega)
  have y2 : Bx (fun b => g ≤ b ∧ b ≤ g + 1 + 1) W1 W2 := by rw [hW2]; exact bx_set _ _ _ (by omega)
  exact (y1.trans y2).trans (bx_set _ _ _ (by omega))
theorem yieldsIf_built10 {P : Program} {ops : Array Oper} {S : World → Prop} {o : Oper} {a : Act} (hgd : o.guard = none) (t : TypeId) (parts : Array (Nat × Operand)) (ho : o.op = .build t parts)
    (cells : Array Value) (hb : P.built t (parts.map fun (i, x) => (i, a.eval x)).toList = some cells) : YieldsIf P ops S o (.agg cells) a := by
  refine Or.inl ⟨by simp [Region.wanted, hgd], fun w _ => ?_⟩
  unfold execOp
  simp only [ho, Sem.run_bind, run_build w t _ cells hb, Result.andThen_ok]
  rfl
/-- a and so many n, as a text -/
def Ys (k : Nat) : ByteArray := Hd.S (97 :: Hd.ns k)
theorem Ys_size (k : Nat) : (Ys k).size = k + 1 := by unfold Ys Hd.ns; rw [Hd.size_S, List.length_cons, List.length_replicate]
theorem Ys_add (k : Nat) (h : k ≤ 1000) (u : World) : (Op.stringOp .add (Ys k) ⟨#[110]⟩).run Try.prog u = .ok (.string (Ys (k + 1))) u := by
  rw [run_string_add_sum _ _ _ (by rw [Ys_size, show (⟨#[110]⟩ : ByteArray).size = 1 from rfl]; omega)]
  unfold Ys
  rw [show (⟨#[110]⟩ : ByteArray) = Hd.S [110] from rfl, Hd.append_S]
  unfold Hd.ns
  rw [List.cons_append, ← List.replicate_succ']
theorem Hd.extract_S (l : Hd.B) (b : Nat) : (Hd.S l).extract 0 b = Hd.S (l.take b) := by
  apply ByteArray.ext
  unfold Hd.S
  rw [ByteArray.data_extract]
  simp
theorem Ys_cut (k j : Nat) (h : j ≤ k) : (Ys k).extract 0 (j + 1) = Ys j := by
  unfold Ys Hd.ns
  rw [Hd.extract_S, List.take_succ_cons, List.take_replicate, Nat.min_eq_left h]
def Hd.kyk (k : Nat) : Hd.Hdr := ⟨97 :: Hd.ns k, 420, 3, 0, 48, [], []⟩
theorem full_small (W : World) : Calls Try.prog 13 #[.agg (Hd.hv Hd.small)] W fun e w' => e = .returned (.string ⟨#[97]⟩) ∧ Bw W w' := by
  have h := hFull_any (Hd.S [97]) (Hd.S []) (Hd.S []) 420 3 0 48 (by rw [Hd.size_S, Hd.size_S]; decide) W
  rw [show Hd.full (Hd.S [97]) (Hd.S []) = ⟨#[97]⟩ by unfold Hd.full; rw [Hd.toList_S]; rfl] at h
  exact h
theorem full_kf (W : World) : Calls Try.prog 13 #[.agg (Hd.hv Hd.kf)] W fun e w' => e = .returned (.string ⟨#[112, 47, 113, 47, 97]⟩) ∧ Bw W w' := by
  have h := hFull_any (Hd.S [97]) (Hd.S [112, 47, 113]) (Hd.S []) 0 0 0 0 (by rw [Hd.size_S, Hd.size_S]; decide) W
  rw [show Hd.full (Hd.S [97]) (Hd.S [112, 47, 113]) = ⟨#[112, 47, 113, 47, 97]⟩ by unfold Hd.full; rw [if_neg (by rw [Hd.toList_S]; decide), show (⟨#[47]⟩ : ByteArray) = Hd.S [47] from rfl, Hd.append_S, Hd.append_S]; rfl] at h
  exact h
set_option maxRecDepth 100000 in
set_option maxHeartbeats 4000000 in
theorem refused_any (A : Option Addr) (n ca : Nat) (l : Hd.B) (er : Nat) (E : Int) (hl : l.length = n) (hr : Hd.Reads l Hd.none er) (hE : E = (er : Int)) (w : World) (hw : RowAt w A n (Hd.rowF l)) : Calls Try.prog 10 #[.slice A n ca, .int .i64 E] w fun e w' => e = .returned (.bool true) ∧ Bw w w' := by
  have hz7 := zero_head
  have hih := info_head Hd.none
  rw [Hd.hv_none] at hih
  obtain ⟨N, hN⟩ : ∃ N, Hid (N = Hd.none7) := ⟨_, rfl⟩
  have HO : Hid (N.all (·.oneCell') = true) := by show _ = _; rw [hN.out]; exact Hd.hv_one Hd.none
  have hq : ∀ W, (Op.equalIn 10000 23 (.agg N) (.agg N)).run Try.prog W = .ok true W := fun W => by rw [hN.out, ← Hd.hv_none, equalIn_head, Hd.eqB_same]
  rw [← hN.out] at hz7 hih
  have tE : (E == E) = true := by simp
  have hgr := guard_head
  go_enter Try.func10, Try.ntmps10
  go_wp2_with (first
    | (go_at_call 8; refine (hGet_reads A n ca l Hd.none er hl hr _ hw).mono ?_; rintro e w2 ⟨rfl, hw2⟩; rw [Hd.hv_none, ← hN.out, ← hE]; clear hr hw hE)
    | (refine wpList_store_row rfl 23 _ _ rfl w2.heap.size N rfl rfl 23 N (heap_alloc_new _ _) hih rfl HO.out ?_; rw [setRow_alloc_new]; obtain ⟨W3, hW3⟩ : ∃ V, V = w2.alloc (.cells N 23) := ⟨_, rfl⟩; have hH3 : W3.heap[w2.heap.size]? = some (.cells N 23 (0, 0)) := (by rw [hW3]; exact heap_alloc_new _ _); have hb3 : Bw w W3 := (by rw [hW3]; exact bw_alloc7 hw2 _); rw [← hW3]; clear hW3)
    | (refine wpList_load_row rfl 23 _ rfl w2.heap.size rfl 23 N (0, 0) _ hH3 Try.underlying23 rfl hih ?_)
    | (refine wpList_built10 rfl 23 _ rfl N (by rw [hN.out]; kernel_rfl) ?_))
  go_ret
  exact ⟨rfl, hb3⟩
end Go.Proofs.Ytkoacehgfmflmab

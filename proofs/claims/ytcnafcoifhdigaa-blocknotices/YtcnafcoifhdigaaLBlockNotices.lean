/- Proved: for every block, every place and every change the statement BlockNotices answers true (the document's P6.5: a block's bytes that are changed anywhere within 32 bits side by side are not parsed, and Is is false of them), with no condition but the reach. -/
import Derived.Test.YtcnafcoifhdigaaGG
import Derived.BigRegion
import Derived.Test.YtcnafcoifhdigaaFk
import Derived.ShutString
import Derived.ChangeOld
namespace Go.Proofs.Ytcnafcoifhdigaa.blockNotices
open Go.ChangeShapes Go.WideShapes Go.ChangeAt Go.RowKit
set_option linter.unusedVariables false

set_option linter.unusedSimpArgs false
set_option maxRecDepth 100000 in
set_option maxHeartbeats 4000000 in
theorem notices_long (k s h : Nat) (A : Option Addr) (L ca : Nat) (d : Nat → Int) (c : Int) (w : World) (hi : InBlk w k s h A L ca d) (u : Nat) (h1 : 96 < L) :
    Calls Try.prog 6 #[.agg #[.int .u64 (k : Int), .int .u32 (s : Int), .int .u8 (h : Int), .slice A L ca], .int .i64 c, .int .u32 (u : Int)] w fun e w' => e = .returned (.bool true) ∧ Bw w w' := by
  obtain ⟨W0, hW0⟩ : ∃ W0, W0 = w.alloc (.cells #[.int .u64 (k : Int), .int .u32 (s : Int), .int .u8 (h : Int), .slice A L ca] 26) := ⟨_, rfl⟩
  have hal : Bw w W0 := by rw [hW0]; exact bw_alloc (Bw.refl _) _
  have hBa : BlkAt W0 w.heap.size (k : Int) (s : Int) (h : Int) A L ca := by rw [hW0]; exact heap_alloc_new _ _
  have hra := hi.data.row.keep hal
  go_enter Try.func6, Try.ntmps6
  go_wp2_with (first | (go_at_call 9; rw [← hW0]; clear hW0; refine (pack_long _ _ _ A L ca _ h1).mono ?_; rintro e w1 ⟨rfl, hw1⟩) | (go_at_call 8; refine (wakes6_any _).mono ?_; rintro e w99 ⟨rfl, hw99⟩))
  go_ret
  exact ⟨rfl, hal.trans (hw1.trans hw99)⟩

set_option maxRecDepth 100000 in
set_option maxHeartbeats 4000000 in
theorem notices_zero6 (k s h : Nat) (A : Option Addr) (L ca : Nat) (d : Nat → Int) (c : Int) (w : World) (hi : InBlk w k s h A L ca d) (h1 : L ≤ 96) :
    Calls Try.prog 6 #[.agg #[.int .u64 (k : Int), .int .u32 (s : Int), .int .u8 (h : Int), .slice A L ca], .int .i64 c, .int .u32 0] w fun e w' => e = .returned (.bool true) ∧ Bw w w' := by
  obtain ⟨W0, hW0⟩ : ∃ W0, W0 = w.alloc (.cells #[.int .u64 (k : Int), .int .u32 (s : Int), .int .u8 (h : Int), .slice A L ca] 26) := ⟨_, rfl⟩
  have hal : Bw w W0 := by rw [hW0]; exact bw_alloc (Bw.refl _) _
  have hBa : BlkAt W0 w.heap.size (k : Int) (s : Int) (h : Int) A L ca := by rw [hW0]; exact heap_alloc_new _ _
  have hra := hi.data.row.keep hal
  go_enter Try.func6, Try.ntmps6
  go_wp2_with (first | (go_at_call 9; rw [← hW0]; clear hW0; refine (pack_ok k s h hi.key hi.stripe hi.shard A L ca d _ hra h1).mono ?_; rintro e w1 ⟨g1, c1, rfl, hown1, hg1, hcap1, hcm1, hw1⟩) | (go_at_call 8; refine (wakes6_any _).mono ?_; rintro e w99 ⟨rfl, hw99⟩))
  go_ret
  exact ⟨rfl, hal.trans (hw1.trans hw99)⟩

/-- a built struct behind a guard that holds -/
theorem wpList_built_g {P : Program} {ops : Array Oper} {rest : List Oper} {o : Oper} {a : Act} {w : World} {Q : Exit → Act → World → Prop} (hgd : Region.wanted o (yielded ops a.tmps) = true) (t : TypeId) (parts : Array (Nat × Operand)) (ho : o.op = .build t parts)
    (cells : Array Value) (hb : P.built t (parts.map fun (i, x) => (i, a.eval x)).toList = some cells)
    (h : wpList P ops Q rest (a.put o.dst (.agg cells)) w) : wpList P ops Q (o :: rest) a w :=
  wpList_step fun _ hK => by rw [if_pos hgd]; exact wp_build t parts ho (by rw [hb]; rfl) (by rw [hb]; exact hK _ _ h)
set_option maxRecDepth 100000 in
set_option maxHeartbeats 4000000 in
theorem notices_ok6 (k s h : Nat) (A : Option Addr) (L ca : Nat) (d : Nat → Int) (c : Int) (w : World) (hi : InBlk w k s h A L ca d) (u : Nat) (hu : u < 4294967296) (u0 : 0 < u) (h1 : L ≤ 96) :
    Calls Try.prog 6 #[.agg #[.int .u64 (k : Int), .int .u32 (s : Int), .int .u8 (h : Int), .slice A L ca], .int .i64 c, .int .u32 (u : Int)] w fun e w' => e = .returned (.bool true) ∧ Bw w w' := by
  obtain ⟨W0, hW0⟩ : ∃ W0, W0 = w.alloc (.cells #[.int .u64 (k : Int), .int .u32 (s : Int), .int .u8 (h : Int), .slice A L ca] 26) := ⟨_, rfl⟩
  have hal : Bw w W0 := by rw [hW0]; exact bw_alloc (Bw.refl _) _
  have hBa : BlkAt W0 w.heap.size (k : Int) (s : Int) (h : Int) A L ca := by rw [hW0]; exact heap_alloc_new _ _
  have hra := hi.data.row.keep hal
  have hfb := Blk.body_bd (key := k) (stripe := s) (len := L) hi.shard (by omega) hi.data.row.2
  have hsb := sealF_bd hfb 124
  have hcbd := chgB_bd hfb 124 u
  obtain ⟨p, hp, hpl⟩ := place_at6 c
  have q1 := Int.tmod_lt_of_pos c (b := 993) (by omega)
  have q2 := Int.lt_tmod_of_pos c (b := 993) (by omega)
  have hu0 : ((u : Int) == 0) = false := by rw [beq_eq_false_iff_ne]; omega
  obtain ⟨f, hf⟩ : ∃ f, Hid (f = Blk.body k s h L d) := ⟨_, rfl⟩
  rw [← hf.out] at hfb hsb hcbd
  go_enter Try.func6, Try.ntmps6
  go_wp2_with (first | (go_at_call 9; rw [← hW0]; clear hW0; refine (pack_ok k s h hi.key hi.stripe hi.shard A L ca d _ hra h1).mono ?_; rintro e w1 ⟨g1, c1, rfl, hown1, hg1, hcap1, hcm1, hw1⟩; rw [← hf.out] at hown1))
  clear q1 q2
  have hbw1 := hal.trans hw1
  have hBk : ∀ W, Below w1.heap.size w1 W → True := fun _ _ => trivial
  have hlt0 : w.heap.size < w1.heap.size := Nat.lt_of_lt_of_le (Array.getElem?_eq_some_iff.1 hBa).1 hw1.size
  have hB1 := hBa.keep hw1
  have hgne : ¬ w.heap.size = g1 := by have := (Array.getElem?_eq_some_iff.1 hBa).1; omega
  have hgw : w.heap.size ≤ g1 := by have := (Array.getElem?_eq_some_iff.1 hBa).1; omega
  clear hra hBk
  go_loopw [10] (fun i wr => ∃ j : Nat, j ≤ 32 ∧ i = .int .i64 j ∧ Own wr g1 128 (chgB f 124 u p j) ∧ BlkAt wr w.heap.size (k : Int) (s : Int) (h : Int) A L ca ∧ Bw w wr) (fun i _ => 32 - (intOf i).toNat)
  case atStart => exact ⟨0, Nat.zero_le _, rfl, hown1.congr (fun j _ => by unfold chgB; rw [Crc.chg_zero, show Crc.byteAt 0 j = 0 by unfold Crc.byteAt; rw [Nat.zero_div], Nat.xor_zero, ← nb_eq hsb]), hB1, hbw1⟩
  case round =>
    obtain ⟨n, hn, rfl, hown, hBr, hbwr⟩ := hrel
    clear hown1 hB1
    by_cases hlt : n < 32
    · by_cases hbit : u / 2 ^ n % 2 = 1
      · have e1 : (bits .and .u32 ((u : Int) / 2 ^ n) 1 == 1) = true := by rw [bit_and6 u n hu, hbit]; rfl
        have e1' : Hid (u / 2 ^ n % 2 = 1) := hbit
        clear hbit
        obtain ⟨j, hj⟩ : ∃ j, Hid (j = (p + n) / 8) := ⟨_, rfl⟩
        obtain ⟨r, hr⟩ : ∃ r, Hid (r = (p + n) % 8) := ⟨_, rfl⟩
        have hjL : j < 128 := by have := hj.out; omega
        have hr8 : r < 8 := by have := hr.out; omega
        have i1 : ((p : Int) + (n : Int)) / 8 = (j : Int) := by have := hj.out; omega
        have i2 : ((p : Int) + (n : Int)) % 8 = (r : Int) := by have := hr.out; omega
        obtain ⟨d1, d2⟩ := hown.cell hjL
        have j0 : (0 : Int) ≤ (j : Int) := Int.natCast_nonneg _
        have j1 : (j : Int) < 128 := by omega
        have r0 : (0 : Int) ≤ (r : Int) := Int.natCast_nonneg _
        have r1 : (r : Int) < 8 := by omega
        go_wp2
        go_region
        go_wp2
        go_roundw
        case rel => exact ⟨n + 1, by omega, by go_num, hown.set hjL (chgB_set hfb e1'.out hj.out hr.out).symm (fun c _ hc => chgB_other f e1'.out hj.out hc), (heap_setCell_other wr ⟨g1, j, none⟩ w.heap.size _ hgne).trans hBr, (Bw.put hbwr hgw _ _).drew⟩
        case measure => simp [intOf]; omega
      · have e1 : (bits .and .u32 ((u : Int) / 2 ^ n) 1 == 1) = false := by rw [bit_and6 u n hu, show u / 2 ^ n % 2 = 0 by omega]; rfl
        have e2 : Hid (u / 2 ^ n % 2 = 0) := by show _ = _; omega
        clear hbit
        go_wp2
        go_roundw
        case rel => exact ⟨n + 1, by omega, by go_num, hown.congr (fun j _ => by unfold chgB; rw [Crc.chg_no e2.out]), hBr, hbwr⟩
        case measure => simp [intOf]; omega
    · have ek : n = 32 := by omega
      subst ek
      have hno : Hid (¬ Crc.Opens (nb (chgB f 124 u p 32)) 124) := chgB_shut hfb 124 u p hu (by omega) (by omega)
      have hrx := hown.row (hcbd p 32)
      obtain ⟨C, hC⟩ : ∃ C, Hid (C = chgB f 124 u p 32) := ⟨_, rfl⟩
      rw [← hC.out] at hno hrx
      clear hown
      by_cases hM : Blk.Mark C
      · go_wp2_with (first | (go_at_call 12; refine (parse_any _ 128 c1 C _ hrx hcap1).mono ?_; rintro e w2 ⟨er, k2, s2, h2, A2, n2, c2, rfl, hs2, hrow2, -, -, hw2⟩; obtain rfl : er = 61 := hs2.errs.sum rfl hM hno.out; have hz : Hid (k2 = 0 ∧ s2 = 0 ∧ h2 = 0 ∧ n2 = 0) := hs2.no (by decide); clear hs2) | (refine wpList_store_row rfl 26 _ _ rfl w2.heap.size (blkCells (k2 : Int) (s2 : Int) (h2 : Int) A2 n2 c2) rfl rfl 26 _ (heap_alloc_new _ _) (blk_info _ _ _ _ _ _) rfl (blk_all _ _ _ _ _ _) ?_; rw [setRow_alloc_new]; have hB3 := blk_new w2 (k2 : Int) (s2 : Int) (h2 : Int) A2 n2 c2; have hw3 := bw_alloc (Bw.refl w2) (.cells (blkCells (k2 : Int) (s2 : Int) (h2 : Int) A2 n2 c2) 26); generalize w2.alloc (.cells (blkCells (k2 : Int) (s2 : Int) (h2 : Int) A2 n2 c2) 26) = w3 at hB3 hw3 ⊢) | refine wpList_load_blk (by rfl) _ rfl w2.heap.size rfl hB3 ?_ | refine wpList_built_g (by rfl) 26 _ rfl #[.int .u64 0, .int .u32 0, .int .u8 0, .slice none 0 0] (by kernel_rfl) ?_ | (go_at_call 15; refine (same_at k2 s2 h2 0 0 0 A2 none n2 0 c2 0 _ (fun _ => 0) _ (hrow2.row.keep hw3) (row_none _)).mono ?_; rintro e w4 ⟨⟨x, rfl, hx⟩, hw4⟩; obtain rfl : x = true := hx.2 ⟨hz.out.1, hz.out.2.1, hz.out.2.2.1, hz.out.2.2.2, fun i hi => absurd hi (by have := hz.out.2.2.2; omega)⟩; clear hx; have hb4 := hw2.trans (hw3.trans hw4); obtain ⟨ka0, ka1, ka2, ka3⟩ := BlkAt.cells (hBr.keep hb4)) | (go_at_call 13; refine (is_any _ 128 c1 C k s h _ (hrx.keep hb4) hcap1).mono ?_; rintro e w5 ⟨⟨x, rfl, hx⟩, hw5⟩; obtain rfl : x = false := (by cases x; rfl; exact absurd (hx.1 rfl).1.2.2.1 hno.out); clear hx) | (go_at_call 8; refine (wakes6_any _).mono ?_; rintro e w99 ⟨rfl, hw99⟩))
        go_ret
        exact ⟨rfl, hbwr.trans (hb4.trans (hw5.trans hw99))⟩
      · go_wp2_with (first | (go_at_call 12; refine (parse_any _ 128 c1 C _ hrx hcap1).mono ?_; rintro e w2 ⟨er, k2, s2, h2, A2, n2, c2, rfl, hs2, hrow2, -, -, hw2⟩; obtain rfl : er = 60 := hs2.errs.mark rfl hM; have hz : Hid (k2 = 0 ∧ s2 = 0 ∧ h2 = 0 ∧ n2 = 0) := hs2.no (by decide); clear hs2) | (refine wpList_store_row rfl 26 _ _ rfl w2.heap.size (blkCells (k2 : Int) (s2 : Int) (h2 : Int) A2 n2 c2) rfl rfl 26 _ (heap_alloc_new _ _) (blk_info _ _ _ _ _ _) rfl (blk_all _ _ _ _ _ _) ?_; rw [setRow_alloc_new]; have hB3 := blk_new w2 (k2 : Int) (s2 : Int) (h2 : Int) A2 n2 c2; have hw3 := bw_alloc (Bw.refl w2) (.cells (blkCells (k2 : Int) (s2 : Int) (h2 : Int) A2 n2 c2) 26); generalize w2.alloc (.cells (blkCells (k2 : Int) (s2 : Int) (h2 : Int) A2 n2 c2) 26) = w3 at hB3 hw3 ⊢) | refine wpList_load_blk (by rfl) _ rfl w2.heap.size rfl hB3 ?_ | refine wpList_built_g (by rfl) 26 _ rfl #[.int .u64 0, .int .u32 0, .int .u8 0, .slice none 0 0] (by kernel_rfl) ?_ | (go_at_call 15; refine (same_at k2 s2 h2 0 0 0 A2 none n2 0 c2 0 _ (fun _ => 0) _ (hrow2.row.keep hw3) (row_none _)).mono ?_; rintro e w4 ⟨⟨x, rfl, hx⟩, hw4⟩; obtain rfl : x = true := hx.2 ⟨hz.out.1, hz.out.2.1, hz.out.2.2.1, hz.out.2.2.2, fun i hi => absurd hi (by have := hz.out.2.2.2; omega)⟩; clear hx; have hb4 := hw2.trans (hw3.trans hw4); obtain ⟨ka0, ka1, ka2, ka3⟩ := BlkAt.cells (hBr.keep hb4)) | (go_at_call 13; refine (is_any _ 128 c1 C k s h _ (hrx.keep hb4) hcap1).mono ?_; rintro e w5 ⟨⟨x, rfl, hx⟩, hw5⟩; obtain rfl : x = false := (by cases x; rfl; exact absurd (hx.1 rfl).1.2.2.1 hno.out); clear hx) | (go_at_call 8; refine (wakes6_any _).mono ?_; rintro e w99 ⟨rfl, hw99⟩))
        go_ret
        exact ⟨rfl, hbwr.trans (hb4.trans (hw5.trans hw99))⟩

theorem walk (kk0 ss0 hh0 : Nat) (a0 : Option Addr) (len0 cap0 : Nat) (f0 : Nat → Int) (a1 : Int) (a2 : Int) (w : World) (w0 : InBlk w kk0 ss0 hh0 a0 len0 cap0 f0) (w1 : (Lit.int .i64 a1).wf = true) (w2 : (Lit.int .u32 a2).wf = true) :
    Calls Try.prog 6 #[.agg #[.int .u64 (kk0 : Int), .int .u32 (ss0 : Int), .int .u8 (hh0 : Int), .slice a0 len0 cap0], .int .i64 a1, .int .u32 a2] w fun e w' => e = .returned (.bool true) ∧ Below w.heap.size w w' := by
  have hb2 := bounds_u32 w2
  obtain ⟨u, rfl⟩ : ∃ u : Nat, a2 = (u : Int) := ⟨a2.toNat, by omega⟩
  by_cases h1 : 96 < len0
  · exact notices_long _ _ _ _ _ _ _ _ w w0 u h1
  · by_cases h2 : u = 0
    · subst h2
      exact notices_zero6 _ _ _ _ _ _ _ _ w w0 (by omega)
    · exact notices_ok6 _ _ _ _ _ _ _ _ w w0 u (by omega) (by omega) (by omega)

set_option maxRecDepth 100000 in
theorem lifted (os : Os) (started : os.Started) (H : Type) (enc : TypeId × Value → H) :
    ReturnsInHanded {} Try.checked os 6 .any (Rows.blockNoticesSpec.pre6 enc Try.prog Try.f6 Rows.blockNoticesRow.domain false) (Rows.blockNoticesSpec.post enc Try.prog Try.f6 false true false false) := by
  refine returnsInHanded_of_change_sized (C := Try.checked) own started (by kernel_rfl) Try.func6
    (ChangeSpec.witness6 (enc := enc) (C := Try.checked) false ⟨#[], #[.agg #[.int .u64 0, .int .u32 0, .int .u8 0, .slice none 0 0], .int .i64 0, .int .u32 0], []⟩ 8 (by kernel_rfl) (by kernel_rfl) (by kernel_rfl) (by kernel_rfl)) ?_
  intro W base args ds gs before hval0 hW hcnd hsz0 _
  have hval : ∀ (j : Nat) t v, Try.f6.params[j]? = some t → args[j]? = some v → Value.okWide Try.prog W .any base t v := hval0
  have hW' := hW
  obtain ⟨p, q, hA0, hV, rfl, hfz, hnd⟩ := hW
  have hA : DataW.TrodAll enc Try.prog W 0 (fun _ => true) true Try.f6.params.toList args.toList ds p := hA0
  have hsz : (DataW.weightsEach Try.prog (Try.f6.params.toList ++ Rows.blockNoticesSpec.plain.varTypes Try.prog) (ds ++ gs)).all (· ≤ reachBytes) = true := hsz0
  rw [Try.params6] at hA hval hsz
  obtain ⟨v0, vs0, d0, ds0, p0, q0, hargs, rfl, rfl, h0, r0⟩ := trodAll_cons hA
  obtain ⟨v1, vs1, d1, ds1, p1, q1, rfl, rfl, rfl, h1, r1⟩ := trodAll_cons r0
  obtain ⟨v2, vs2, d2, ds2, p2, q2, rfl, rfl, rfl, h2, r2⟩ := trodAll_cons r1
  obtain ⟨rfl, rfl, rfl⟩ := trodAll_nil r2
  obtain rfl : args = #[v0, v1, v2] := by cases args; simp_all
  obtain ⟨rfl, rfl⟩ := trodVars_none hV
  have k0 := h0
  have lt0 : ∀ x ∈ p0, x.block < W.heap.size := by obtain ⟨m, hm⟩ := k0; exact DataW.trod_lt m _ _ _ hm
  obtain ⟨kk0, ss0, hh0, a0, len0, cap0, f0, rfl, w0⟩ := open_block (hval 0 26 v0 rfl rfl) h0 (fun x hx => by simpa using List.all_eq_true.1 hsz x (DataW.weights_mem_each (j := 0) (t := 26) rfl rfl x hx))
  obtain ⟨a1, rfl, rfl, rfl, w1⟩ := open_int Try.underlying3 (hval 1 3 v1 rfl rfl) h1
  obtain ⟨a2, rfl, rfl, rfl, w2⟩ := open_int Try.underlying23 (hval 2 23 v2 rfl rfl) h2
  clear hA0 hval0
  refine (walk kk0 ss0 hh0 a0 len0 cap0 f0 a1 a2 W w0 w1 w2).mono fun e W' ⟨he, bel⟩ => ?_
  subst he
  exact ⟨_, rfl, _, _, _, [], _, [], hW', trodAll_mk1 (shut_bool Try.underlying4 _), (trodAll_cons_mk (Below.trod laidOut (by kernel_rfl) (of_decide_eq_true (by kernel_rfl)) k0 bel lt0) (trodAll_cons_mk (shut_int Try.underlying3 w1) (trodAll_cons_mk (shut_int Try.underlying23 w2) trodAll_mk0))), rfl, bel.frame _, fun h => by cases h⟩

theorem over : Rows.blockNoticesRow.holds Try.pinned (OpenSpec.ofChange Rows.blockNoticesSpec) :=
  OpenClaim.holds_of_wide 6 Try.f6 rfl rfl rfl rfl rfl rfl rfl ⟨rfl, rfl, rfl, rfl, rfl⟩ rfl rfl rfl rfl rfl (by kernel_rfl) Try.func6 (by kernel_rfl)
    (of_decide_eq_true (by kernel_rfl)) (by unfold Func.isWrapper; first | (rw [if_pos (by decide +kernel)]; kernel_rfl) | (rw [if_neg (by decide +kernel)]; exact ⟨rfl, rfl⟩))
    (fun os started H enc _ => lifted os started H enc)

theorem proved : Rows.BlockNoticesSaid := over
#print axioms proved
end Go.Proofs.Ytcnafcoifhdigaa.blockNotices

/- Texts of mine, put together. -/
import Derived.Test.YtldkhbkgmiicbaaGreatDoorBu21
import Derived.Test.YtldkhbkgmiicbaaGreatDoorBu23
import Derived.Test.YtldkhbkgmiicbaaGreatDoorBu18
import Derived.Lib.AppendZeros

/- Layer 12: the document's own Filled and typed. -/
namespace Go.Proofs.YtldkhbkgmiicbaaGreatDoor
open Go.RowKit Go.Deep
set_option linter.unusedVariables false
set_option linter.unusedSimpArgs false

theorem zeroCells_u8 (m : Nat) : Builtin.zeroCells #[.int .u8 0] m = (List.replicate m (Value.int .u8 0)).toArray := by
  unfold Builtin.zeroCells
  apply Array.ext
  · simp
  · intro i h1 h2
    simp [Nat.mod_one]
theorem byteCells_zeros (m : Nat) : Lib.byteCells (List.replicate m 0) = List.replicate m (Value.int .u8 0) := by
  unfold Lib.byteCells; rw [List.map_replicate]; rfl
theorem byteCells_app12 (a b : Pk.B) : Lib.byteCells (a ++ b) = Lib.byteCells a ++ Lib.byteCells b := by simp [Lib.byteCells]
/-- noughts behind a row of bytes -/
theorem run_append_noughts (w : World) (base : Nat) (v : Value) (n : Nat) (xs : List Value) (hown : w.ownsRow base 5 1 v n xs) (m : Nat) (h0 : 0 < m) (hb : n + m ≤ 1048576) (hbase : base ≤ w.heap.size) (ty : TypeId) :
    ∃ v' w', (Builtin.append_ #[24, 3] ty #[v, .int .i64 (m : Int)]).run Tryz.prog w = .ok v' w' ∧ w'.ownsRow base 5 1 v' (n + m) (xs ++ List.replicate m (.int .u8 0)) ∧ w.grownBy w' v.ownBlock := by
  obtain ⟨i, hi, hz, hs1, hs2⟩ := info_parts info_u8
  have ht := Tryz.underlying24
  have htn := Tryz.underlying3
  have hn : m ≠ 0 := by omega
  have hw : IntKind.i64.wrap (m : Int) = m := by rw [IntKind.wrap_i64]; omega
  have hneg : ¬ ((m : Int) < 0) := by omega
  have h48i : ¬ (281474976710656 < (m : Int)) := by omega
  have hlen : (xs ++ List.replicate m (Value.int .u8 0)).length = (n + m) * 1 := by rw [List.length_append, hown.1, List.length_replicate]; omega
  have grown : ∀ (old : Nat) (row : Option Nat),
      (w.drew.alloc (.cells (xs.toArray ++ (List.replicate m (Value.int .u8 0)).toArray ++ Builtin.zeroCells #[.int .u8 0] (grownCap w (n + m) old 5 - (n + m))) 5)).ownsRow base 5 1
        (.slice (some ⟨w.heap.size, 0, none⟩) (n + m) (grownCap w (n + m) old 5)) (n + m) (xs ++ List.replicate m (.int .u8 0)) ∧
      w.grownBy (w.drew.alloc (.cells (xs.toArray ++ (List.replicate m (Value.int .u8 0)).toArray ++ Builtin.zeroCells #[.int .u8 0] (grownCap w (n + m) old 5 - (n + m))) 5)) row := by
    intro old row
    have hge := grownCap_ge w (n + m) old 5
    have hcm : grownCap w (n + m) old 5 ≤ maxLen := grownCap_le_maxLen w (n + m) old 5 (by unfold maxLen; omega)
    refine ⟨⟨hlen, .inr ⟨w.heap.size, _, _, rfl, hbase, heap_alloc_new w.drew _, hge, hcm, ?_, ?_⟩⟩, ⟨rfl, rfl, rfl, by simp, fun k hk _ => heap_alloc_old w.drew _ hk⟩⟩
    · rw [zeroCells_u8]
      simp only [Array.size_append, List.size_toArray, hown.1, List.length_replicate]
      omega
    · rw [Array.toList_append, ← hlen, Array.toList_append]
      exact List.take_left
  rcases hown.2 with ⟨rfl, rfl⟩ | ⟨g, cap, cur, rfl, hbg, hcg, hnc, hcm, hcs, htake⟩
  · have hx : xs = [] := List.eq_nil_of_length_eq_zero (by simpa using hown.1)
    subst hx
    have hr := Lib.run_append_nil_zeros (P := Tryz.prog) w 24 3 ty 5 i _ .i64 .i64 ht htn hi hz m h0 (by omega) (by omega) (by rw [hs2]; omega)
    have hgr := grown 0 (Value.ownBlock (.slice none 0 0))
    refine ⟨_, _, hr, ?_⟩
    simp only [Nat.zero_add, List.nil_append, Array.empty_append] at hgr ⊢
    rw [show (Value.int .u8 0).cells = #[.int .u8 0] from rfl, zeroCells_u8 m]
    exact hgr
  · by_cases hroom : n + m ≤ cap
    · have hst := run_storeCells_at Tryz.prog g (n * 1) 5 (List.replicate m (Value.int .u8 0)) 0 cur w hcg (by simp; omega) (fun u hu => by rw [List.mem_replicate] at hu; rw [hu.2]; rfl)
      simp only [Nat.add_zero, Nat.mul_one, List.length_replicate] at hst
      refine ⟨.slice (some ⟨g, 0, none⟩) (n + m) cap, w.setRow g (cur.toList.take n ++ List.replicate m (Value.int .u8 0) ++ cur.toList.drop (n + m)).toArray, ?_, ⟨hlen, .inr ⟨g, cap, _, rfl, hbg, setRow_heap w g cur _ _ _ hcg, hroom, hcm, ?_, ?_⟩⟩, ⟨rfl, rfl, rfl, by simp, fun k _ hk => setRow_other w g k _ (fun e => hk (by simp [Value.ownBlock, e]))⟩⟩
      · simp [Builtin.append_, run_underlying ht, run_underlying htn, sizeOf, typeInfo, zeroValue, hi, hz, hs1, hs2, asInt, asIntOf, hw, hn, hneg, h48i, hroom, Addr.add_lit, show (Value.int .u8 0).cells = #[.int .u8 0] from rfl, zeroCells_u8, hst]
      · simp only [List.size_toArray, List.length_append, List.length_take, List.length_drop, Array.length_toList, List.length_replicate]
        omega
      · rw [Nat.mul_one] at htake
        rw [htake, ← hlen]
        exact List.take_left
    · have holds : ∀ j u, xs[j]? = some u → w.drew.cell? ((⟨g, 0, none⟩ : Addr).add j) = some u := fun j u hu => hown.cells (g := g) rfl j u hu
      have hf := run_firstCells_some (P := Tryz.prog) w.drew 1 n ⟨g, 0, none⟩ n cap xs hown.1 holds
      have h63' : ¬ (9223372036854775807 < ((n : Int) + (m : Int))) := by omega
      have h48' : ¬ (281474976710656 < Builtin.nextslicecap (n + m) cap) := by
        have := growslice_fits (need := n + m) (old := cap) (bytes := 1) (by omega) (by omega)
        omega
      have hgr := grown cap (Value.ownBlock (.slice (some ⟨g, 0, none⟩) n cap))
      refine ⟨_, _, ?_, hgr⟩
      simp [Builtin.append_, run_underlying ht, run_underlying htn, sizeOf, typeInfo, zeroValue, hi, hz, hs1, hs2, asInt, asIntOf, hw, hn, hneg, h48i, hroom, h63', h48', Question.forced, hf, newRow, grownCap, show (Value.int .u8 0).cells = #[.int .u8 0] from rfl, zeroCells_u8]
theorem own_slice12 {W : World} {base : Nat} {e : TypeId} {s n : Nat} {v : Value} {xs : List Value} (h : W.ownsRow base e s v n xs) : ∃ A c, v = .slice A n c := by
  rcases h.2 with ⟨rfl, rfl⟩ | ⟨g, cap, cur, rfl, _⟩
  · exact ⟨_, _, rfl⟩
  · exact ⟨_, _, rfl⟩
theorem gap_not {n k : Nat} (h : k < Pk.gap n) : (n + k) % 512 ≠ 0 := by unfold Pk.gap at h; omega
theorem bw_grow12 {w wr w' : World} {e : TypeId} {s n : Nat} {v : Value} {xs : List Value} (h : Bw w wr) (hg : wr.grownBy w' v.ownBlock) (ho : wr.ownsRow w.heap.size e s v n xs) : Bw w w' := by
  have := bw_grow hg (base := w.heap.size) h h.size ho
  exact this
set_option maxRecDepth 100000 in
set_option maxHeartbeats 2000000 in
theorem rfilled_any (A : Option Addr) (n c : Nat) (r : Pk.B) (hr : r.length = n) (hn : n ≤ 524288) (hc : A = none → c = 0) (w : World) (hrow : RowAt w A n (Hd.rowF r)) :
    Calls Tryz.prog 52 #[.slice A n c] w fun e w' => (∃ u, e = .returned u ∧ w'.ownsRow w.heap.size 5 1 u (Pk.fill r).length (Lib.byteCells (Pk.fill r))) ∧ Bw w w' := by
  obtain ⟨i0, hi0, hz0, hz1, hz2⟩ := info_parts info_u8
  have HL : Hid (r.length = n) := hr
  have hgl := Pk.gap_lt n
  have HF : Hid (Pk.fill r = r ++ List.replicate (Pk.gap n) 0) := by show _ = _; unfold Pk.fill; rw [HL.out]
  obtain ⟨G, hG⟩ : ∃ G, Hid (Pk.gap n = G) := ⟨_, rfl⟩
  rw [hG.out] at hgl HF
  rw [HF.out]
  have HN : Hid (∀ k, k < G → (n + k) % 512 ≠ 0) := fun k hk => gap_not (by rw [hG.out]; exact hk)
  have HZ : Hid ((n + G) % 512 = 0) := by rw [← hG.out]; exact Pk.gap_add n
  clear hr
  go_enter Tryz.func52, Tryz.ntmps52
  go_wp2_with (at_builtin; go_loud (refine wpList_append_rowat _ (by rfl) (.tmp 4) (.tmp 5) _ (by rfl) w.heap.size 5 i0 _ 1 Tryz.underlying24 hi0 hz0 hz1 hz2 rfl _ _ _ (by rfl) (World.ownsRow_nil w _ _ _) A n c (Hd.rowF r) (by rfl) hrow hc (by unfold maxLen; omega) (by omega) (Nat.le_refl _) ?_; intro v1 w1 ho1 hg1; have hb1 : Bw w w1 := bw_grow12 (Bw.refl _) hg1 (World.ownsRow_nil w w.heap.size 5 1); rw [Nat.zero_add, List.nil_append] at ho1; have hcr := Hd.cells_row r; rw [HL.out] at hcr; rw [hcr] at ho1; clear hcr; obtain ⟨A1, c1, rfl⟩ := own_slice12 ho1))
  go_loopg [3] G (fun gk s wr => ∃ A' c' k, s = .slice A' (n + k) c' ∧ k + gk = G ∧ Hid (wr.ownsRow w.heap.size 5 1 (.slice A' (n + k) c') (n + k) (Lib.byteCells (r ++ List.replicate k 0))) ∧ Bw w wr)
  case atStart => exact ⟨A1, c1, 0, rfl, Nat.zero_add _, by rw [List.replicate_zero, List.append_nil]; exact ho1, hb1⟩
  case round =>
    obtain ⟨A', c', k, rfl, hk, hown, hbw⟩ := hrel
    cases gk with
    | zero =>
      obtain rfl : k = G := by omega
      have hz : (((n : Int) + (k : Int)) % 512 != 0) = false := by rw [bne_eq_false_iff_eq]; have := HZ.out; omega
      go_wp2
      go_ret
      refine ⟨⟨_, rfl, ?_⟩, hbw⟩
      rw [List.length_append, List.length_replicate, HL.out]
      exact hown.out
    | succ g =>
      have hz : (((n : Int) + (k : Int)) % 512 != 0) = true := by rw [bne_iff_ne]; have := HN.out k (by omega); omega
      have hb2 : Bw wr (wr.alloc (.cells #[.int .u8 0] 5)) := bw_alloc7 (Bw.refl _) _
      have HC : Hid (Lib.byteCells (r ++ List.replicate (k + 1) 0) = Lib.byteCells (r ++ List.replicate k 0) ++ [.int .u8 0]) := by
        show _ = _
        rw [List.replicate_succ', ← List.append_assoc, byteCells_app12 (r ++ List.replicate k 0)]
        rfl
      go_wp2_with (at_builtin; refine wpList_append_own _ (by rfl) (.tmp 11) (.tmp 12) _ (by rfl) w.heap.size 5 i0 _ 1 1 Tryz.underlying24 hi0 hz0 hz1 hz2 rfl (by decide) _ (n + k) _ (by rfl) (own_keep hown.out hb2) ⟨wr.heap.size, 0, none⟩ 1 1 [.int .u8 0] (by rfl) rfl (World.news_of_block (cs := #[_]) (heap_alloc_new _ _)) (by simp [Value.oneCell']) (by unfold maxLen; omega) (by omega) (Nat.le_trans hbw.size hb2.size) ?_; intro v2 w2 ho2 hg2 _; have hb3 : Bw w w2 := bw_grow12 (hbw.trans hb2) hg2 (own_keep hown.out hb2); rw [← HC.out] at ho2; obtain ⟨A2, c2, rfl⟩ := own_slice12 ho2)
      go_roundg g
      case measure => omega
      case rel => exact ⟨A2, c2, k + 1, rfl, by omega, ho2, hb3⟩
set_option maxRecDepth 100000 in
theorem rtyped_any (k : Nat) (hk : k < 256) (w : World) : Calls Tryz.prog 53 #[.int .u8 (k : Int)] w fun e w' => e = .returned (.int .u8 ((Pk.typ k).toNat : Int)) ∧ w' = w := by
  unfold Pk.typ
  by_cases h3 : k = 3
  · subst h3
    go_enter Tryz.func53, Tryz.ntmps53
    go_wp2
    go_ret
    exact ⟨rfl, rfl⟩
  · have e3 : ((k : Int) == 3) = false := by rw [beq_eq_false_iff_ne]; omega
    by_cases h4 : k = 4
    · subst h4
      go_enter Tryz.func53, Tryz.ntmps53
      go_wp2
      go_ret
      exact ⟨rfl, rfl⟩
    · have e4 : ((k : Int) == 4) = false := by rw [beq_eq_false_iff_ne]; omega
      by_cases h2 : k = 2
      · subst h2
        go_enter Tryz.func53, Tryz.ntmps53
        go_wp2
        go_ret
        exact ⟨rfl, rfl⟩
      · have e2 : ((k : Int) == 2) = false := by rw [beq_eq_false_iff_ne]; omega
        rw [if_neg h3, if_neg h4, if_neg h2]
        clear h2 h3 h4
        go_enter Tryz.func53, Tryz.ntmps53
        go_wp2
        go_ret
        exact ⟨rfl, rfl⟩
end Go.Proofs.YtldkhbkgmiicbaaGreatDoor

/- Arrays of 512 bytes in memory; the program's own sum and form, as landed at e169a841. -/
namespace Go.Proofs.YtldkhbkgmiicbaaGreatDoor
open Go.RowKit Go.Deep
set_option linter.unusedVariables false
set_option linter.unusedSimpArgs false

theorem info_raw {l : Hd.B} (h : l.length = 512) : (Tryz.prog.info? 84).map (·.size) = some (Hd.arr l).size := by
  rw [Hd.arr_size, h]; kernel_rfl
theorem zero_raw (w : World) : (zeroValue 84).run Tryz.prog w = .ok (.agg (Hd.arr Hd.zeros)) w := by kernel_rfl
/-- an array of these bytes in a block -/
def ArrAt (w : World) (g : Nat) (l : Hd.B) : Prop := w.heap[g]? = some (.cells (Hd.arr l) 84 (0, 0))
theorem ArrAt.lt {w : World} {g : Nat} {l : Hd.B} (h : ArrAt w g l) : g < w.heap.size := (Array.getElem?_eq_some_iff.1 h).1
theorem ArrAt.keep {w w' : World} {g : Nat} {l : Hd.B} (h : ArrAt w g l) (b : Bw w w') : ArrAt w' g l := (b.block g h.lt).trans h
theorem ArrAt.keepx {S : Nat → Prop} {w w' : World} {g : Nat} {l : Hd.B} (h : ArrAt w g l) (b : Bx S w w') (hg : ¬ S g) : ArrAt w' g l := (b.block g h.lt hg).trans h
theorem ArrAt.cell {w : World} {g : Nat} {l : Hd.B} (h : ArrAt w g l) {c : Nat} (hc : c < l.length) : w.cell? ⟨g, c, none⟩ = some (.int .u8 (Hd.rowF l c)) ∧ w.frozen? ⟨g, c, none⟩ = false :=
  ⟨(cell_of_row w g c _ _ _ h).trans (Hd.arr_row hc), frozen_of_row w g c _ _ h⟩
/-- a piece of an array as a row -/
theorem ArrAt.row {w : World} {g : Nat} {l : Hd.B} (h : ArrAt w g l) (o n : Nat) (hn : o + n ≤ l.length) : RowAt w (some ⟨g, o, none⟩) n (Hd.rowF ((l.drop o).take n)) := by
  refine ⟨.inr ⟨g, o, rfl, fun i hi => ?_⟩, Hd.rowF_bd _⟩
  rw [(h.cell (c := o + i) (by omega)).1]
  have e : ((l.drop o).take n)[i]? = some l[o + i] := by rw [List.getElem?_take, if_pos hi, List.getElem?_drop, List.getElem?_eq_getElem (by omega)]
  rw [Hd.rowF_at e, Hd.rowF_at (List.getElem?_eq_getElem (show o + i < l.length by omega))]
theorem arr_new (w : World) (l : Hd.B) : ArrAt (w.alloc (.cells (Hd.arr l) 84)) w.heap.size l := heap_alloc_new _ _
theorem index_raw (w : World) {l : Hd.B} {k : Nat} (hl : l.length = 512) (hk : k < 512) : (Instr.index 84 (.agg (Hd.arr l)) (.int .i64 (k : Int))).run Tryz.prog w = .ok (.int .u8 (Hd.rowF l k)) w := by
  simp [Instr.index, run_underlying Tryz.underlying84, asIntOf, hk, go_sem]
  rw [Hd.arr_row (by omega)]; rfl
/-- a row laid over an array -/
theorem run_copy_arr {w : World} {g o n : Nat} {l s : Hd.B} (m cap cb : Nat) (ty : TypeId) {A : Option Addr} (hg : ArrAt w g l) (hn : s.length = n) (ho : o + n ≤ l.length) (hm : n ≤ m) (h0 : 0 < n) (hB : RowAt w A n (Hd.rowF s)) :
    (Builtin.copy_ #[24, 24] ty #[.slice (some ⟨g, o, none⟩) m cap, .slice A n cb]).run Tryz.prog w = .ok (goInt n) (w.setRow g (Hd.arr (Hd.ovl l o s))) := by
  subst hn
  obtain ⟨b, off, rfl, hc⟩ := hB.at (k := 0) h0
  have hl : (Lib.byteCells s).length = s.length := Lib.byteCells_length s
  have hrun := run_copy_row Tryz.prog w 24 24 ty 5 g o m cap ⟨b, off, none⟩ s.length cb (Hd.arr l) 84 (Lib.byteCells s) Tryz.underlying24 u8_one hg (by rw [hl]; exact (Nat.min_eq_left hm).symm) (by rw [← Hd.cells_row]; exact rowat_news hB) (by rw [hl, Hd.arr_size]; omega) (Lib.byteCells_one s)
  rw [hl, Hd.arr_ovl] at hrun
  exact hrun
theorem run_copy_txt {w : World} {g o : Nat} {l : Hd.B} (m cap : Nat) (ty : TypeId) (s : ByteArray) (hg : ArrAt w g l) (ho : o + s.size ≤ l.length) (hm : s.size ≤ m) :
    (Builtin.copy_ #[24, 9] ty #[.slice (some ⟨g, o, none⟩) m cap, .string s]).run Tryz.prog w = .ok (goInt s.size) (w.setRow g (Hd.arr (Hd.ovl l o s.toList))) := by
  have hrun := Lib.run_copy_row_string (P := Tryz.prog) w 24 9 ty 5 g o m cap s (Hd.arr l) 84 Tryz.underlying24 u8_one hg hm (by rw [Hd.arr_size]; omega)
  have e := Hd.arr_ovl l o s.toList
  rw [Hd.size_toList, ByteArray.toList_eq] at e
  rw [e] at hrun
  rw [ByteArray.toList_eq]
  exact hrun
theorem arr_set {w : World} {g : Nat} {l : Hd.B} (h : ArrAt w g l) (m : Hd.B) : ArrAt (w.setRow g (Hd.arr m)) g m := setRow_heap w g _ _ _ _ h
theorem bx_set {S : Nat → Prop} (w : World) (g : Nat) (a : Array Value) (h : S g) : Bx S w (w.setRow g a) :=
  ⟨rfl, rfl, rfl, by simp [World.setRow], fun k _ hk => setRow_other w g k _ (fun e => hk (by rw [e]; exact h))⟩

set_option maxRecDepth 100000 in
theorem hsum_any (l : Hd.B) (hl : l.length = 512) (w : World) :
    Calls Tryz.prog 65 #[.agg (Hd.arr l)] w fun e w' => e = .returned (.int .i64 ((Hd.sumB l : Nat) : Int)) ∧ Bw w w' := by
  have hi := info_raw hl
  have hix : Hid (∀ (w : World) (k : Nat), k < 512 → (Instr.index 84 (.agg (Hd.arr l)) (.int .i64 (k : Int))).run Tryz.prog w = .ok (.int .u8 (Hd.rowF l k)) w) := fun w k hk => index_raw w hl hk
  have hend := Hd.sumTo_all hl
  have HE : Hid (Hd.sumTo l 512 = Hd.sumB l) := hend
  obtain ⟨A, hA⟩ : ∃ A, Hid (A = Hd.arr l) := ⟨_, rfl⟩
  rw [← hA.out] at hi hix ⊢
  clear hend
  go_enter Tryz.func65, Tryz.ntmps65
  go_wp2_with (refine wpList_load_row rfl 84 _ rfl w.heap.size rfl 84 A (0, 0) _ (heap_alloc_new _ _) Tryz.underlying84 rfl hi ?_)
  obtain ⟨W, hW⟩ : ∃ W, W = w.alloc (.cells A 84) := ⟨_, rfl⟩
  have hbw : Bw w W := by rw [hW]; exact (Below.refl _ _).alloc (Nat.le_refl _) _
  rw [← hW]
  clear hW
  go_loop [3, 7] (fun t i => ∃ (k u : Nat), k ≤ 512 ∧ i = .int .i64 (k : Int) ∧ t = .int .i64 (u : Int) ∧ Hid (u = Hd.sumTo l k) ∧ u ≤ 130560) (fun _ i => 512 - (intOf i).toNat)
  case atStart => exact ⟨0, 0, Nat.zero_le _, rfl, rfl, rfl, Nat.zero_le _⟩
  case round =>
    obtain ⟨k, u, hk, rfl, rfl, hu, hub⟩ := hrel
    have k0 : (0 : Int) ≤ (k : Int) := Int.natCast_nonneg _
    by_cases hlt : k < 512
    · have h1 := hix.out W k hlt
      obtain ⟨b0, b1⟩ := Hd.rowF_bd l k
      have t1 : (k : Int) < 512 := by omega
      by_cases hm : 148 ≤ k ∧ k < 156
      · have m1 : (148 : Int) ≤ (k : Int) := by omega
        have m2 : (k : Int) < 156 := by omega
        have hs : Hid (u + 32 = Hd.sumTo l (k + 1)) := by show _ = _; rw [hu.out]; unfold Hd.sumTo; rw [if_pos hm]; cases k <;> rfl
        have hs2 := Hd.sumTo_bd l (k + 1)
        rw [← hs.out] at hs2
        go_wp2
        go_round
        case rel => exact ⟨k + 1, u + 32, by omega, by go_num, by go_num, hs.out, by omega⟩
        case measure => simp [intOf]; omega
      · obtain ⟨z, hz⟩ : ∃ z : Nat, Hid (Hd.rowF l k = (z : Int)) := ⟨(Hd.rowF l k).toNat, by show _ = _; omega⟩
        have hs : Hid (u + z = Hd.sumTo l (k + 1)) := by
          show _ = _
          have e : (l.getD k 0).toNat = z := by have := hz.out; unfold Hd.rowF at this; omega
          rw [hu.out]; unfold Hd.sumTo; rw [if_neg hm, e]; cases k <;> rfl
        have hs2 := Hd.sumTo_bd l (k + 1)
        rw [← hs.out] at hs2
        rw [hz.out] at h1 b0 b1
        rcases Nat.lt_or_ge k 148 with hlo | hlo
        · have m1 : ¬ (148 : Int) ≤ (k : Int) := by omega
          go_wp2
          go_round
          case rel => exact ⟨k + 1, u + z, by omega, by go_num, by go_num, hs.out, by omega⟩
          case measure => simp [intOf]; omega
        · have m1 : (148 : Int) ≤ (k : Int) := by omega
          have m2 : ¬ (k : Int) < 156 := by omega
          go_wp2
          go_round
          case rel => exact ⟨k + 1, u + z, by omega, by go_num, by go_num, hs.out, by omega⟩
          case measure => simp [intOf]; omega
    · have ek : k = 512 := by omega
      subst ek
      go_wp2
      go_ret
      exact ⟨ret_int (by rw [hu.out, HE.out]), hbw⟩
theorem hform_any (n : Int) (W : Nat) (hn : n ≤ 9223372036854775807) (h : Oct.Has n (W : Int)) (w : World) : Calls Tryz.prog 64 #[.int .i64 n, .int .i64 (W : Int)] w fun e w' =>
    ∃ g, e = .returned (.slice (some ⟨g, 0, none⟩) W W) ∧ RowAt w' (some ⟨g, 0, none⟩) W (Hd.rowF (Hd.numB n.toNat W)) ∧ Bw w w' := by
  go_enter Tryz.func64, Tryz.ntmps64
  go_wp2_with (go_at_call 88; refine (oput_yes n W hn h _).mono ?_; rintro e w1 ⟨g, rfl, ho, hg, hw1⟩)
  go_ret
  have hr := ho.row (Oct.formF_bd _ _)
  refine ⟨g, rfl, ⟨?_, Hd.rowF_bd _⟩, hw1⟩
  rcases hr.1 with h0 | ⟨b, off, hA, hc⟩
  · exact Or.inl h0
  · exact Or.inr ⟨b, off, hA, fun i hi => by rw [hc i hi, Hd.rowF_num hi]⟩
end Go.Proofs.YtldkhbkgmiicbaaGreatDoor

/- The program's own sealed and taken, as landed at e169a841. -/
namespace Go.Proofs.YtldkhbkgmiicbaaGreatDoor
open Go.RowKit Go.Deep
set_option linter.unusedVariables false
set_option linter.unusedSimpArgs false

theorem Hd.ovl_ovl {l : Hd.B} {o : Nat} {s : Hd.B} (h : o + s.length ≤ l.length) : Hd.ovl (Hd.ovl l o s) o s = Hd.ovl l o s := by
  have e1 : (l.take o).length = o := by rw [List.length_take]; omega
  unfold Hd.ovl
  have e2 : (l.take o ++ s ++ l.drop (o + s.length)).take o = l.take o := by
    rw [List.append_assoc, List.take_append_of_le_length (by omega), List.take_of_length_le (by omega)]
  have e3 : (l.take o ++ s ++ l.drop (o + s.length)).drop (o + s.length) = l.drop (o + s.length) := by
    have : o + s.length = (l.take o ++ s).length := by rw [List.length_append]; omega
    rw [this, List.drop_left]
  rw [e2, e3]
/-- an array of the call's own, ahead of what is laid over it, or behind -/
def Two (w : World) (g : Nat) (l m : Hd.B) : Prop := ArrAt w g l ∨ ArrAt w g m
theorem Two.keep {w w' : World} {g : Nat} {l m : Hd.B} (h : Two w g l m) (b : Bw w w') : Two w' g l m := h.elim (fun h => .inl (h.keep b)) (fun h => .inr (h.keep b))
/-- at a step of a drawn region: a row laid over an array -/
theorem step_copy_arr {w : World} {ops : Array Oper} {o : Oper} {a : Act} {K : Act → World → Prop} {Q : Exit → Act → World → Prop} {E : Prop} (hgd : o.guard = none) (x y : Operand)
    (ho : o.op = .call { callee := .builtin .copy, args := #[x, y], argTypes := #[24, 24] })
    (g p n m cap cb : Nat) (l s : Hd.B) (A : Option Addr) (hx : a.eval x = .slice (some ⟨g, p, none⟩) m cap) (hy : a.eval y = .slice A n cb) (hg : Two w g l (Hd.ovl l p s)) (hn : s.length = n) (hp : p + n ≤ l.length) (hm : n ≤ m) (h0 : 0 < n) (hB : RowAt w A n (Hd.rowF s))
    (hh : ∀ w', ArrAt w' g (Hd.ovl l p s) → Bx (· = g) w w' → K (a.put o.dst (goInt n)) w') :
    if Region.wanted o (yielded ops a.tmps) = true then Oper.wp Tryz.prog o a w K Q else E := by
  have hw : Region.wanted o (yielded ops a.tmps) = true := by simp [Region.wanted, hgd]
  rw [if_pos hw]
  have hrun : (Builtin.copy_ #[24, 24] o.type #[.slice (some ⟨g, p, none⟩) m cap, .slice A n cb]).run Tryz.prog w = .ok (goInt n) (w.setRow g (Hd.arr (Hd.ovl l p s))) := by
    rcases hg with hg | hg
    · exact run_copy_arr m cap cb o.type hg hn hp hm h0 hB
    · have := run_copy_arr m cap cb o.type hg hn (by rw [Hd.ovl_len (by omega)]; exact hp) hm h0 hB
      rw [Hd.ovl_ovl (by omega)] at this
      exact this
  have hA : ArrAt (w.setRow g (Hd.arr (Hd.ovl l p s))) g (Hd.ovl l p s) := by
    rcases hg with hg | hg
    · exact arr_set hg _
    · exact arr_set hg _
  unfold Oper.wp execOp
  simp only [ho, resolve, invoke, builtin, Sem.run_bind, Sem.run_pure, Result.andThen_ok, List.map_toArray, List.map_cons, List.map_nil, hx, hy, hrun]
  exact hh _ hA (bx_set w g _ rfl)
theorem step_copy_txt {w : World} {ops : Array Oper} {o : Oper} {a : Act} {K : Act → World → Prop} {Q : Exit → Act → World → Prop} {E : Prop} (hgd : o.guard = none) (x y : Operand)
    (ho : o.op = .call { callee := .builtin .copy, args := #[x, y], argTypes := #[24, 9] })
    (g p m cap : Nat) (l : Hd.B) (s : ByteArray) (hx : a.eval x = .slice (some ⟨g, p, none⟩) m cap) (hy : a.eval y = .string s) (hg : Two w g l (Hd.ovl l p s.toList)) (hp : p + s.size ≤ l.length) (hm : s.size ≤ m)
    (hh : ∀ w', ArrAt w' g (Hd.ovl l p s.toList) → Bx (· = g) w w' → K (a.put o.dst (goInt s.size)) w') :
    if Region.wanted o (yielded ops a.tmps) = true then Oper.wp Tryz.prog o a w K Q else E := by
  have hw : Region.wanted o (yielded ops a.tmps) = true := by simp [Region.wanted, hgd]
  rw [if_pos hw]
  have hs := Hd.size_toList s
  have hrun : (Builtin.copy_ #[24, 9] o.type #[.slice (some ⟨g, p, none⟩) m cap, .string s]).run Tryz.prog w = .ok (goInt s.size) (w.setRow g (Hd.arr (Hd.ovl l p s.toList))) := by
    rcases hg with hg | hg
    · exact run_copy_txt m cap o.type s hg hp hm
    · have := run_copy_txt m cap o.type s hg (by rw [Hd.ovl_len (by omega)]; exact hp) hm
      rw [Hd.ovl_ovl (by omega)] at this
      exact this
  have hA : ArrAt (w.setRow g (Hd.arr (Hd.ovl l p s.toList))) g (Hd.ovl l p s.toList) := by
    rcases hg with hg | hg
    · exact arr_set hg _
    · exact arr_set hg _
  unfold Oper.wp execOp
  simp only [ho, resolve, invoke, builtin, Sem.run_bind, Sem.run_pure, Result.andThen_ok, List.map_toArray, List.map_cons, List.map_nil, hx, hy, hrun]
  exact hh _ hA (bx_set w g _ rfl)
/-- a whole array read at a step of a drawn region -/
theorem step_load_arr {w : World} {ops : Array Oper} {o : Oper} {a : Act} {K : Act → World → Prop} {Q : Exit → Act → World → Prop} {E : Prop} (hgd : o.guard = none) (x : Operand) (ho : o.op = .load 84 x)
    (g : Nat) (l : Hd.B) (hl : l.length = 512) (hx : a.eval x = .pointer (some ⟨g, 0, none⟩)) (hg : ArrAt w g l) (hh : K (a.put o.dst (.agg (Hd.arr l))) w) :
    if Region.wanted o (yielded ops a.tmps) = true then Oper.wp Tryz.prog o a w K Q else E := by
  have hw : Region.wanted o (yielded ops a.tmps) = true := by simp [Region.wanted, hgd]
  rw [if_pos hw]
  exact wp_load_row 84 x ho g hx 84 _ (0, 0) _ hg Tryz.underlying84 rfl (info_raw hl) hh
/-- the same outside of a drawn region -/
theorem wpList_copy_arr {ops : Array Oper} {rest : List Oper} {o : Oper} {a : Act} {w : World} {Q : Exit → Act → World → Prop} (hgd : o.guard = none) (x y : Operand)
    (ho : o.op = .call { callee := .builtin .copy, args := #[x, y], argTypes := #[24, 24] })
    (g p n m cap cb : Nat) (l s : Hd.B) (A : Option Addr) (hx : a.eval x = .slice (some ⟨g, p, none⟩) m cap) (hy : a.eval y = .slice A n cb) (hg : ArrAt w g l) (hn : s.length = n) (hp : p + n ≤ l.length) (hm : n ≤ m) (h0 : 0 < n) (hB : RowAt w A n (Hd.rowF s))
    (hh : ∀ w', ArrAt w' g (Hd.ovl l p s) → Bx (· = g) w w' → wpList Tryz.prog ops Q rest (a.put o.dst (goInt n)) w') : wpList Tryz.prog ops Q (o :: rest) a w := by
  refine wpList_plain hgd fun K hK => ?_
  have hrun := run_copy_arr m cap cb o.type hg hn hp hm h0 hB
  unfold Oper.wp execOp
  simp only [ho, resolve, invoke, builtin, Sem.run_bind, Sem.run_pure, Result.andThen_ok, List.map_toArray, List.map_cons, List.map_nil, hx, hy, hrun]
  exact hK _ _ (hh _ (arr_set hg _) (bx_set w g _ rfl))
theorem wpList_copy_txt {ops : Array Oper} {rest : List Oper} {o : Oper} {a : Act} {w : World} {Q : Exit → Act → World → Prop} (hgd : o.guard = none) (x y : Operand)
    (ho : o.op = .call { callee := .builtin .copy, args := #[x, y], argTypes := #[24, 9] })
    (g p m cap : Nat) (l : Hd.B) (s : ByteArray) (hx : a.eval x = .slice (some ⟨g, p, none⟩) m cap) (hy : a.eval y = .string s) (hg : ArrAt w g l) (hp : p + s.size ≤ l.length) (hm : s.size ≤ m)
    (hh : ∀ w', ArrAt w' g (Hd.ovl l p s.toList) → Bx (· = g) w w' → wpList Tryz.prog ops Q rest (a.put o.dst (goInt s.size)) w') : wpList Tryz.prog ops Q (o :: rest) a w := by
  refine wpList_plain hgd fun K hK => ?_
  have hrun := run_copy_txt m cap o.type s hg hp hm
  unfold Oper.wp execOp
  simp only [ho, resolve, invoke, builtin, Sem.run_bind, Sem.run_pure, Result.andThen_ok, List.map_toArray, List.map_cons, List.map_nil, hx, hy, hrun]
  exact hK _ _ (hh _ (arr_set hg _) (bx_set w g _ rfl))
theorem Hd.has_sum {l : Hd.B} (h : l.length = 512) : Oct.Has ((Hd.sumB l : Nat) : Int) ((7 : Nat) : Int) := by
  have := Hd.sumB_bd (b := l) (by omega)
  exact ⟨by decide, by decide, Int.natCast_nonneg _, .inl (by rw [Int.toNat_natCast]; exact this)⟩

/-- within a drawn region: the array's block alone turns -/
def Reg (W : World) (g : Nat) (l m : Hd.B) (w' : World) : Prop := Bx (· = g) W w' ∧ Two w' g l m
theorem Reg.start {W : World} {g : Nat} {l m : Hd.B} (h : ArrAt W g l) : Reg W g l m W.drew := ⟨(Bx.refl _ _).drew, .inl (h.keep (Below.refl _ _).drew)⟩
theorem Reg.keep {W w1 w2 : World} {g : Nat} {l m : Hd.B} (h : Reg W g l m w1) (b : Bw w1 w2) : Reg W g l m w2 := ⟨h.1.trans (.of_bw b), h.2.keep b⟩
theorem Reg.set {W w1 w2 : World} {g : Nat} {l m : Hd.B} (h : Reg W g l m w1) (a : ArrAt w2 g m) (b : Bx (· = g) w1 w2) : Reg W g l m w2 := ⟨h.1.trans b, .inr a⟩
theorem bw_alloc2 (w : World) (o p : Obj) : Bw w ((w.alloc o).alloc p) := bw_alloc7 (bw_alloc7 (Bw.refl _) _) _
/-- what lay above the base alone turned: what was there stays -/
theorem bw_of_bx {w W w' : World} {S : Nat → Prop} (h : Bw w W) (b : Bx S W w') (hS : ∀ g, S g → w.heap.size ≤ g) : Bw w w' :=
  ⟨b.os.trans h.os, b.tape.trans h.tape, b.output.trans h.output, Nat.le_trans h.size b.size, fun k hk => (b.block k (Nat.lt_of_lt_of_le hk h.size) (fun e => by have := hS k e; omega)).trans (h.block k hk)⟩
theorem arr_store {w : World} {g o : Nat} {l : Hd.B} (h : ArrAt w g l) (c : UInt8) (ho : o < l.length) : ArrAt (w.setCell ⟨g, o, none⟩ (.int .u8 (c.toNat : Int))) g (Hd.ovl l o [c]) := by
  have := heap_setCell_same w g o _ _ (.int .u8 (c.toNat : Int)) h
  rw [Hd.arr_set ho] at this
  exact this

set_option maxRecDepth 100000 in
set_option maxHeartbeats 2000000 in
theorem hsealed_any (l : Hd.B) (hl : l.length = 512) (w : World) :
    Calls Tryz.prog 41 #[.agg (Hd.arr l)] w fun e w' => e = .returned (.agg (Hd.arr (Hd.sealB l))) ∧ Bw w w' := by
  have hz := zero_raw
  obtain ⟨Z, hZ⟩ : ∃ Z, Hid (Z = Hd.arr Hd.zeros) := ⟨_, rfl⟩
  have hZs : Z.size = 512 := by rw [hZ.out, Hd.arr_size]; rfl
  rw [← hZ.out] at hz
  obtain ⟨W, hW⟩ : ∃ W, W = (w.alloc (.cells (Hd.arr l) 84)).alloc (.cells Z 84) := ⟨_, rfl⟩
  have hA0 : ArrAt W w.heap.size l := by rw [hW]; exact heap_alloc2_old _ _ _
  have hB0 : W.heap[w.heap.size + 1]? = some (.cells Z 84 (0, 0)) := by rw [hW]; exact heap_alloc2_new _ _ _
  have hbw : Bw w W := by rw [hW]; exact bw_alloc2 _ _ _
  have hi := info_raw hl
  have hsb := Hd.sumB_bd (b := l) (by omega)
  obtain ⟨N, hN⟩ : ∃ N : Nat, Hid (N = Hd.sumB l) := ⟨_, rfl⟩
  rw [← hN.out] at hsb
  have HH : Hid (Oct.Has (N : Int) ((7 : Nat) : Int)) := by rw [hN.out]; exact Hd.has_sum hl
  have hl7 := Hd.numB_len N 7
  obtain ⟨M, hM⟩ : ∃ M, Hid (M = Hd.ovl l 148 (Hd.numB N 7)) := ⟨_, rfl⟩
  have hMl : M.length = 512 := by rw [hM.out, Hd.ovl_len (by rw [hl7]; omega), hl]
  have hend : Hid (Hd.ovl M 155 [32] = Hd.sealB l) := by show _ = _; rw [hM.out, hN.out]; exact Hd.ovl_seal hl
  go_enter Tryz.func41, Tryz.ntmps41
  go_wp2
  rw [← hW]
  clear hW hz
  have hdr : Bw W W.drew := (Below.refl _ _).drew
  refine wp_region_any (by kernel_rfl) ?_
  change wpAny _ _ _ _ _ _ _ (World.drew _)
  refine wpAny_take (i := 0) (v := ?_) rfl (by kernel_rfl) (by kernel_rfl) (by kernel_rfl) (fun _ _ _ h => h) (Or.inl ⟨by rfl, ?_⟩) ?_
  rotate_left
  · intro w; go_simp; all_goals (with_reducible rfl)
  try simp only [Act.put, List.setIfInBounds_toArray, List.set_cons_zero, List.set_cons_succ]
  refine wpAny_ready (rs := [1]) (by kernel_rfl) (by simp) ?_
  refine AllReady.cons rfl (fun K hK => ?_) AllReady.nil
  refine step_load_arr (by rfl) _ (by rfl) w.heap.size l hl (by rfl) (hA0.keep hdr) ?_
  refine hK _ _ ?_
  clear hK K
  try simp only [Act.put, List.setIfInBounds_toArray, List.set_cons_zero, List.set_cons_succ]
  refine wpAny_ready (rs := [2]) (by kernel_rfl) (by simp) ?_
  refine AllReady.cons rfl (fun K hK => ?_) AllReady.nil
  go_simp
  refine (hsum_any l hl _).mono ?_
  rintro e w1 ⟨rfl, hw1⟩
  rw [← hN.out]
  refine hK _ _ ?_
  clear hK K
  try simp only [Act.put, List.setIfInBounds_toArray, List.set_cons_zero, List.set_cons_succ]
  refine wpAny_ready (rs := [3]) (by kernel_rfl) (by simp) ?_
  refine AllReady.cons rfl (fun K hK => ?_) AllReady.nil
  go_simp
  refine (hform_any (N : Int) 7 (by omega) HH.out _).mono ?_
  rintro e w2 ⟨g2, rfl, hr2, hw2⟩
  rw [Int.toNat_natCast] at hr2
  refine hK _ _ ?_
  clear hK K
  try simp only [Act.put, List.setIfInBounds_toArray, List.set_cons_zero, List.set_cons_succ]
  refine wpAny_ready (rs := [4]) (by kernel_rfl) (by simp) ?_
  refine AllReady.cons rfl (fun K hK => ?_) AllReady.nil
  have hb2 := (hdr.trans hw1).trans hw2
  refine step_copy_arr (by rfl) _ _ (by rfl) w.heap.size 148 7 _ _ _ l (Hd.numB N 7) _ (by rfl) (by rfl) (.inl (hA0.keep hb2)) hl7 (by omega) (by omega) (by omega) hr2 ?_
  rw [← hM.out]
  intro w3 ha3 hx3
  refine hK _ _ ?_
  clear hK K
  try simp only [Act.put, List.setIfInBounds_toArray, List.set_cons_zero, List.set_cons_succ]
  refine wpAny_done (by kernel_rfl) ?_ _
  have c3 := ha3.cell (c := 155) (by omega)
  have hB3 : w3.heap[w.heap.size + 1]? = some (.cells Z 84 (0, 0)) := (hx3.block _ (Nat.lt_of_lt_of_le (Array.getElem?_eq_some_iff.1 hB0).1 hb2.size) (by omega)).trans ((hb2.block _ (Array.getElem?_eq_some_iff.1 hB0).1).trans hB0)
  have hb3 : Bw w w3 := bw_of_bx (hbw.trans hb2) hx3 (fun k e => by rw [e]; exact Nat.le_refl _)
  have ha4 := arr_store ha3 32 (o := 155) (by omega)
  rw [hend.out] at ha4
  have hl4 : (Hd.sealB l).length = 512 := by rw [Hd.seal_len (by omega), hl]
  have hi4 := info_raw hl4
  have hB4 : (w3.setCell ⟨w.heap.size, 155, none⟩ (.int .u8 32)).heap[w.heap.size + 1]? = some (.cells Z 84 (0, 0)) := (heap_setCell_other w3 ⟨w.heap.size, 155, none⟩ _ _ (by simp only; omega)).trans hB3
  have hb4 : Bw w (w3.setCell ⟨w.heap.size, 155, none⟩ (.int .u8 32)) := hb3.put (Nat.le_refl _) _ _
  obtain ⟨c4, c5⟩ := c3
  clear hb2 hw1 hw2 hr2 hA0 hB0 hbw hx3 hb3 hB3 ha3
  go_wp2_with (first
    | refine wpList_load_row rfl 84 _ rfl w.heap.size rfl 84 (Hd.arr (Hd.sealB l)) (0, 0) _ ha4 Tryz.underlying84 rfl hi4 ?_
    | refine wpList_store_row rfl 84 _ _ rfl (w.heap.size + 1) (Hd.arr (Hd.sealB l)) rfl rfl 84 Z hB4 hi4 (by rw [hZs, Hd.arr_size, hl4]) (Hd.arr_one _) ?_)
  exact bodyPost_ret (results_cell_row Tryz.results41 _ _ (w.heap.size + 1) 84 (Hd.arr (Hd.sealB l)) (0, 0) _ rfl (setRow_heap _ (w.heap.size + 1) _ _ _ _ hB4) Tryz.underlying84 rfl hi4) rfl ⟨rfl, bw_of_bx hb4 (bx_set _ (w.heap.size + 1) _ rfl) (fun k e => by omega)⟩
end Go.Proofs.YtldkhbkgmiicbaaGreatDoor

/- Texts of mine, put together. -/
import Derived.Test.YtldkhbkgmiicbaaGreatDoorBu21
import Derived.Test.YtldkhbkgmiicbaaGreatDoorBu24
import Derived.Great.BuildSlice
import Derived.Great.FillDense
import Derived.Laws.Externs
import Derived.Lib.Bytealg
import Derived.Lib.IndexLaws
import Derived.Laws.ResultCell
import Derived.Stop.BytesEq
import Derived.Test.YtldkhbkgmiicbaaGreatDoorRows
import Derived.LaidMore
import Derived.LaidSub
import Derived.Lib.LaidTab
import Derived.Lib.ItoaNum
import Derived.Lib.SmallJoins
import Derived.Stop.Joined

/- Layer 12: blocks of 512 bytes in memory, a roll of them, and the program's own put, as landed at 16cf8173. -/
namespace Go.Proofs.YtldkhbkgmiicbaaGreatDoor
open Go.RowKit Go.Deep
set_option linter.unusedVariables false
set_option linter.unusedSimpArgs false

theorem info_brk {l : Hd.B} (h : l.length = 512) : (Tryz.prog.info? 104).map (·.size) = some (Hd.arr l).size := by
  rw [Hd.arr_size, h]; kernel_rfl
theorem info_brk3 : (Tryz.prog.info? 104).map (fun i => (i.zero, i.size, i.bytes)) = some (some (.agg (Hd.arr Hd.zeros)), 512, 512) := by kernel_rfl
theorem zero_brk (w : World) : (zeroValue 104).run Tryz.prog w = .ok (.agg (Hd.arr Hd.zeros)) w := by kernel_rfl
/-- a block of these bytes in memory -/
def BrkAt (w : World) (g : Nat) (l : Hd.B) : Prop := w.heap[g]? = some (.cells (Hd.arr l) 104 (0, 0))
theorem BrkAt.lt {w : World} {g : Nat} {l : Hd.B} (h : BrkAt w g l) : g < w.heap.size := (Array.getElem?_eq_some_iff.1 h).1
theorem BrkAt.keep {w w' : World} {g : Nat} {l : Hd.B} (h : BrkAt w g l) (b : Bw w w') : BrkAt w' g l := (b.block g h.lt).trans h
theorem BrkAt.keepx {S : Nat → Prop} {w w' : World} {g : Nat} {l : Hd.B} (h : BrkAt w g l) (b : Bx S w w') (hg : ¬ S g) : BrkAt w' g l := (b.block g h.lt hg).trans h
theorem BrkAt.cell {w : World} {g : Nat} {l : Hd.B} (h : BrkAt w g l) {c : Nat} (hc : c < l.length) : w.cell? ⟨g, c, none⟩ = some (.int .u8 (Hd.rowF l c)) ∧ w.frozen? ⟨g, c, none⟩ = false :=
  ⟨(cell_of_row w g c _ _ _ h).trans (Hd.arr_row hc), frozen_of_row w g c _ _ h⟩
theorem BrkAt.row {w : World} {g : Nat} {l : Hd.B} (h : BrkAt w g l) {n : Nat} (hn : l.length = n) : RowAt w (some ⟨g, 0, none⟩) n (Hd.rowF l) :=
  ⟨.inr ⟨g, 0, rfl, fun i hi => by rw [Nat.zero_add]; exact (h.cell (by omega)).1⟩, Hd.rowF_bd _⟩
theorem brk_new (w : World) (l : Hd.B) : BrkAt (w.alloc (.cells (Hd.arr l) 104)) w.heap.size l := heap_alloc_new _ _
theorem brk_set {w : World} {g : Nat} {l : Hd.B} (h : BrkAt w g l) (m : Hd.B) : BrkAt (w.setRow g (Hd.arr m)) g m := setRow_heap w g _ _ _ _ h
theorem rowat_take {w : World} {A : Option Addr} {r : Hd.B} {n q : Nat} (hq : q ≤ n) (h : RowAt w A n (Hd.rowF r)) : RowAt w A q (Hd.rowF (r.take q)) := by
  refine ⟨?_, Hd.rowF_bd _⟩
  rcases h.1 with h0 | ⟨b, off, e, hc⟩
  · exact .inl (by omega)
  · refine .inr ⟨b, off, e, fun i hi => ?_⟩
    rw [hc i (by omega)]
    unfold Hd.rowF
    rw [List.getD_eq_getElem?_getD, List.getD_eq_getElem?_getD, List.getElem?_take, if_pos hi]
theorem rowat_cutz {w : World} {b o : Nat} {r : Hd.B} {n q : Nat} (hq : q ≤ n) (h : RowAt w (some ⟨b, o, none⟩) n (Hd.rowF r)) (o' : Nat) (ho : o' = o + q ∨ n = q) : RowAt w (some ⟨b, o', none⟩) (n - q) (Hd.rowF (r.drop q)) := by
  refine ⟨?_, Hd.rowF_bd _⟩
  rcases ho with rfl | e
  · rcases h.1 with h0 | ⟨b', off, e, hc⟩
    · exact .inl (by omega)
    · cases e
      refine .inr ⟨b, o + q, rfl, fun i hi => ?_⟩
      rw [Nat.add_assoc, hc (q + i) (by omega)]
      unfold Hd.rowF
      rw [List.getD_eq_getElem?_getD, List.getD_eq_getElem?_getD, List.getElem?_drop]
  · exact .inl (by omega)
/-- the beginning of a row laid over a block -/
theorem run_copy_brk {w : World} {g n cb : Nat} {l r : Hd.B} (ty : TypeId) {A : Option Addr} (hg : BrkAt w g l) (hl : l.length = 512) (hn : r.length = n) (h0 : 0 < n) (hB : RowAt w A n (Hd.rowF r)) (q : Nat) (hq : q = min n 512) :
    (Builtin.copy_ #[24, 24] ty #[.slice (some ⟨g, 0, none⟩) 512 512, .slice A n cb]).run Tryz.prog w = .ok (goInt q) (w.setRow g (Hd.arr (Hd.ovl l 0 (r.take q)))) := by
  have hB' := rowat_take (q := q) (by omega) hB
  have hl' : (Lib.byteCells (r.take q)).length = q := by rw [Lib.byteCells_length, List.length_take]; omega
  obtain ⟨b, off, rfl, hc⟩ := hB.at (k := 0) h0
  have hcr := Hd.cells_row (r.take q)
  rw [show (r.take q).length = q by rw [List.length_take]; omega] at hcr
  have hrun := run_copy_row Tryz.prog w 24 24 ty 5 g 0 512 512 ⟨b, off, none⟩ n cb (Hd.arr l) 104 (Lib.byteCells (r.take q)) Tryz.underlying24 u8_one hg (by rw [hl']; exact hq) (by rw [← hcr]; exact rowat_news hB') (by rw [hl', Hd.arr_size, hl]; omega) (Lib.byteCells_one _)
  rw [hl'] at hrun
  have e := Hd.arr_ovl l 0 (r.take q)
  rw [show (r.take q).length = q by rw [List.length_take]; omega] at e
  rw [e] at hrun
  exact hrun
theorem wpList_copy_brk {ops : Array Oper} {rest : List Oper} {o : Oper} {a : Act} {w : World} {Q : Exit → Act → World → Prop} (hgd : o.guard = none) (x y : Operand)
    (ho : o.op = .call { callee := .builtin .copy, args := #[x, y], argTypes := #[24, 24] })
    (g n cb : Nat) (l r : Hd.B) (A : Option Addr) (hx : a.eval x = .slice (some ⟨g, 0, none⟩) 512 512) (hy : a.eval y = .slice A n cb) (hg : BrkAt w g l) (hl : l.length = 512) (hn : r.length = n) (h0 : 0 < n) (hB : RowAt w A n (Hd.rowF r))
    (hh : ∀ w' (q : Nat), q = min n 512 → BrkAt w' g (Hd.ovl l 0 (r.take q)) → Bx (· = g) w w' → wpList Tryz.prog ops Q rest (a.put o.dst (.int .i64 (q : Int))) w') : wpList Tryz.prog ops Q (o :: rest) a w := by
  refine wpList_plain hgd fun K hK => ?_
  have hrun := run_copy_brk (cb := cb) o.type hg hl hn h0 hB (min n 512) rfl
  unfold Oper.wp execOp
  simp only [ho, resolve, invoke, builtin, Sem.run_bind, Sem.run_pure, Result.andThen_ok, List.map_toArray, List.map_cons, List.map_nil, hx, hy, hrun]
  exact hK _ _ (hh _ _ rfl (brk_set hg _) (bx_set w g _ rfl))
theorem step_load_brk {w : World} {ops : Array Oper} {o : Oper} {a : Act} {K : Act → World → Prop} {Q : Exit → Act → World → Prop} {E : Prop} (hgd : o.guard = none) (x : Operand) (ho : o.op = .load 104 x)
    (g : Nat) (l : Hd.B) (hl : l.length = 512) (hx : a.eval x = .pointer (some ⟨g, 0, none⟩)) (hg : BrkAt w g l) (hh : K (a.put o.dst (.agg (Hd.arr l))) w) :
    if Region.wanted o (yielded ops a.tmps) = true then Oper.wp Tryz.prog o a w K Q else E := by
  have hw : Region.wanted o (yielded ops a.tmps) = true := by simp [Region.wanted, hgd]
  rw [if_pos hw]
  exact wp_load_row 104 x ho g hx 104 _ (0, 0) _ hg Tryz.underlying104 rfl (info_brk hl) hh
theorem fill_one (z c : Array Value) (hc : c.size = 512) : Instr.fill (fun i => some (i * 512, 512)) ((Array.range (1 * 512)).map (z[· % z.size]!)) [(0, .agg c)] = some c := by
  have h := Great.fill_whole (s := 512) (by decide) [.agg c] ((Array.range (1 * 512)).map (z[· % z.size]!)) (fun v hv => by rw [List.mem_singleton] at hv; rw [hv]; exact hc) (by simp)
  simpa [Value.cells] using h
theorem own_grown {w w' : World} {row : Option Nat} {b : Nat} {e : TypeId} {size k : Nat} {u : Value} {ys : List Value} (hg : w.grownBy w' row) (h : w.ownsRow b e size u k ys) (hne : ∀ x, u.ownBlock = some x → some x ≠ row) : w'.ownsRow b e size u k ys := by
  refine ⟨h.1, ?_⟩
  rcases h.2 with h0 | ⟨g, cap, cur, rfl, hb, hc, hr⟩
  · exact .inl h0
  · exact .inr ⟨g, cap, cur, rfl, hb, (hg.block g (Array.getElem?_eq_some_iff.1 hc).1 (hne g rfl)).trans hc, hr⟩
/-- one more element behind a row: where it lies, and that what there was stays -/
theorem append_more {P : Program} (w : World) (base : Nat) (t ty e : TypeId) (i : TypeInfo) (z : Value) (size bytes : Nat) (ht : P.underlying t = some (.slice e)) (hi : P.info? e = some i) (hz : i.zero = some z)
    (hsize : i.size = size) (hby : i.bytes = bytes) (hzs : z.cells.size = size) (hsz : 0 < size)
    (v : Value) (n : Nat) (xs : List Value) (hown : w.ownsRow base e size v n xs)
    (a : Addr) (m c : Nat) (hm : 0 < m) (news : List Value) (hl : news.length = m * size) (hnews : ∀ j u, news[j]? = some u → w.cell? (a.add j) = some u) (h1 : ∀ u ∈ news, u.oneCell' = true)
    (h63 : n + m ≤ maxLen) (hbytes : (n + m) * bytes ≤ 140737488355328) (hbase : base ≤ w.heap.size) :
    ∃ v' w', (Builtin.append_ #[t, t] ty #[v, .slice (some a) m c]).run P w = .ok v' w' ∧ w'.ownsRow base e size v' (n + m) (xs ++ news) ∧ w.grownBy w' v.ownBlock ∧
      (v'.ownBlock = v.ownBlock ∨ ∃ k, v'.ownBlock = some k ∧ w.heap.size ≤ k) ∧ (∀ b u k ys, k ≤ n → w.ownsRow b e size u k ys → w'.ownsRow b e size u k ys) := by
  obtain ⟨v', w', hrun, ho, hg, -⟩ := run_append_own (P := P) w base t ty e i z size bytes ht hi hz hsize hby hzs hsz v n xs hown a m c news hl hnews h1 h63 hbytes hbase
  refine ⟨v', w', hrun, ho, hg, ?_⟩
  subst hsize
  subst hby
  have hsmall : n + m ≤ 9223372036854775807 := by simp only [maxLen] at h63; omega
  rcases hown.2 with ⟨rfl, rfl⟩ | ⟨g, cap, cur, rfl, hbg, hcg, hnc, hcm, hcs, htake⟩
  · have hx : xs = [] := List.eq_nil_of_length_eq_zero (by simpa using hown.1)
    subst hx
    have hr := run_append_nil (P := P) w t ty e i z ht hi hz a m c news hl hnews (by omega) (by omega) (by have hb := hbytes; simp only [Nat.zero_add] at hb; omega)
    rw [hr] at hrun
    cases hrun
    exact ⟨.inr ⟨w.heap.size, rfl, Nat.le_refl _⟩, fun b u k ys _ h => own_grown hg h (fun x _ e => by cases e)⟩
  · by_cases hroom : n + m ≤ cap
    · have hfit : n * i.size + news.length ≤ cur.size := by rw [hl, hcs, ← Nat.add_mul]; exact Nat.mul_le_mul_right _ hroom
      have hr := run_append_room (P := P) w t ty e i ht hi g n cap cur hcg a m c news hl hnews h1 hroom hfit
      rw [hr] at hrun
      cases hrun
      refine ⟨.inl rfl, fun b u k ys hk h => ?_⟩
      by_cases hu : u.ownBlock = some g
      · refine ⟨h.1, ?_⟩
        rcases h.2 with h0 | ⟨g', cap', cur', rfl, hb', hc', h4, h5, h6, h7⟩
        · exact .inl h0
        · simp only [Value.ownBlock, Option.some.injEq] at hu
          subst hu
          rw [hcg] at hc'
          cases hc'
          refine .inr ⟨g', cap', _, rfl, hb', setRow_heap w g' cur _ e _ hcg, h4, h5, ?_, ?_⟩
          · rw [← h6]
            simp only [List.size_toArray, List.length_append, List.length_take, List.length_drop, Array.length_toList]
            omega
          · rw [← h7]
            have hks : k * i.size ≤ n * i.size := Nat.mul_le_mul_right _ hk
            rw [List.append_assoc, List.take_append_of_le_length (by rw [List.length_take, Array.length_toList]; omega), List.take_take, Nat.min_eq_left hks]
      · exact own_grown hg h (fun x hx e => hu (by rw [hx]; exact e))
    · have holds : ∀ j u, xs[j]? = some u → w.cell? ((⟨g, 0, none⟩ : Addr).add j) = some u := hown.cells (g := g) rfl
      have hr := run_append_grow (P := P) w t ty e i z ht hi hz ⟨g, 0, none⟩ n cap xs hown.1 holds a m c news hl hnews (by omega) (by omega) (growslice_fits (by omega) hbytes)
      rw [hr] at hrun
      cases hrun
      exact ⟨.inr ⟨w.heap.size, rfl, Nat.le_refl _⟩, fun b u k ys _ h => own_keep h (bw_alloc7 (Below.refl _ _).drew _)⟩
/-- a roll in a block: the slice of its blocks, and how many bytes they have -/
def RollAt (w : World) (g : Nat) (v : Value) (R : Pk.B) : Prop := w.heap[g]? = some (.cells #[v, .int .i64 (R.length : Int)] 69 (0, 0))
theorem RollAt.lt {w : World} {g : Nat} {v : Value} {R : Pk.B} (h : RollAt w g v R) : g < w.heap.size := (Array.getElem?_eq_some_iff.1 h).1
theorem RollAt.keep {w w' : World} {g : Nat} {v : Value} {R : Pk.B} (h : RollAt w g v R) (b : Bw w w') : RollAt w' g v R := (b.block g h.lt).trans h
theorem RollAt.keepx {S : Nat → Prop} {w w' : World} {g : Nat} {v : Value} {R : Pk.B} (h : RollAt w g v R) (b : Bx S w w') (hg : ¬ S g) : RollAt w' g v R := (b.block g h.lt hg).trans h
theorem RollAt.c0 {w : World} {g : Nat} {v : Value} {R : Pk.B} (h : RollAt w g v R) : w.cell? ⟨g, 0, none⟩ = some v := cell_of_row w g 0 _ _ _ h
theorem RollAt.c1 {w : World} {g : Nat} {v : Value} {R : Pk.B} (h : RollAt w g v R) : w.cell? ⟨g, 1, none⟩ = some (.int .i64 (R.length : Int)) := cell_of_row w g 1 _ _ _ h
theorem RollAt.f0 {w : World} {g : Nat} {v : Value} {R : Pk.B} (h : RollAt w g v R) : w.frozen? ⟨g, 0, none⟩ = false := frozen_of_row w g 0 _ _ h
theorem RollAt.f1 {w : World} {g : Nat} {v : Value} {R : Pk.B} (h : RollAt w g v R) : w.frozen? ⟨g, 1, none⟩ = false := frozen_of_row w g 1 _ _ h
/-- the bytes of a roll -/
def RollOwn (w : World) (base : Nat) (v : Value) (R : Pk.B) : Prop := R.length % 512 = 0 ∧ w.ownsRow base 104 512 v (R.length / 512) (Lib.byteCells R)
/-- rows of blocks that there were, of at most so many bytes, are there -/
def Stays (n : Nat) (w w' : World) : Prop := ∀ b u k ys, k * 512 ≤ n → w.ownsRow b 104 512 u k ys → w'.ownsRow b 104 512 u k ys
/-- what becomes of a roll -/
structure Rolls (base g : Nat) (v : Value) (R R' : Pk.B) (w w' : World) (v' : Value) : Prop where
  at_ : RollAt w' g v' R'
  own : RollOwn w' base v' R'
  bx : Bx (fun b => b = g ∨ v.ownBlock = some b) w w'
  blk : v'.ownBlock = v.ownBlock ∨ ∃ k, v'.ownBlock = some k ∧ w.heap.size ≤ k
  stays : Stays R.length w w'
theorem stays_bw {n : Nat} {w w' : World} (h : Bw w w') : Stays n w w' := fun b u k ys _ ho => own_keep ho h
theorem Rolls.refl {base g : Nat} {v : Value} {R : Pk.B} {w : World} (h1 : RollAt w g v R) (h2 : RollOwn w base v R) : Rolls base g v R R w w v := ⟨h1, h2, Bx.refl _ _, .inl rfl, fun _ _ _ _ _ h => h⟩
theorem Rolls.trans {base g : Nat} {v v1 v2 : Value} {R R1 R2 : Pk.B} {w w1 w2 : World} (h : Rolls base g v R R1 w w1 v1) (k : Rolls base g v1 R1 R2 w1 w2 v2) (hl : R.length ≤ R1.length) : Rolls base g v R R2 w w2 v2 := by
  refine ⟨k.at_, k.own, Bx.new h.bx k.bx (fun x hx hT => ?_), ?_, fun b u n ys hn ho => k.stays b u n ys (by omega) (h.stays b u n ys hn ho)⟩
  · rcases hT with e | e
    · exact .inl e
    · rcases h.blk with e1 | ⟨q, e1, e2⟩
      · exact .inr (e1 ▸ e)
      · rw [e1] at e
        cases e
        omega
  · rcases k.blk with e | ⟨q, e1, e2⟩
    · rw [e]; exact h.blk
    · exact .inr ⟨q, e1, Nat.le_trans h.bx.size e2⟩
theorem Rolls.bw {base g : Nat} {v v1 : Value} {R R1 : Pk.B} {w w1 w2 : World} (h : Rolls base g v R R1 w w1 v1) (k : Bw w1 w2) : Rolls base g v R R1 w w2 v1 :=
  ⟨h.at_.keep k, ⟨h.own.1, own_keep h.own.2 k⟩, h.bx.trans (.of_bw k), h.blk, fun b u n ys hn ho => own_keep (h.stays b u n ys hn ho) k⟩
/-- a row that lies apart of a roll -/
def Apart (w : World) (A : Option Addr) (n g : Nat) (v : Value) : Prop := ∀ b o, A = some ⟨b, o, none⟩ → 0 < n → b < w.heap.size ∧ b ≠ g ∧ v.ownBlock ≠ some b
theorem Rolls.row {base g : Nat} {v v1 : Value} {R R1 : Pk.B} {w w1 : World} (h : Rolls base g v R R1 w w1 v1) {A : Option Addr} {n : Nat} {f : Nat → Int} (hr : RowAt w A n f) (ha : Apart w A n g v) : RowAt w1 A n f := by
  refine ⟨?_, hr.2⟩
  rcases hr.1 with h0 | ⟨b, o, rfl, hc⟩
  · exact .inl h0
  · refine .inr ⟨b, o, rfl, fun i hi => ?_⟩
    obtain ⟨h1, h2, h3⟩ := ha b o rfl (by omega)
    rw [World.cell?_of_block (a := ⟨b, o + i, none⟩) (h.bx.block b h1 (fun e => e.elim h2 h3))]
    exact hc i hi
theorem Rolls.apart {base g : Nat} {v v1 : Value} {R R1 : Pk.B} {w w1 : World} (h : Rolls base g v R R1 w w1 v1) {A : Option Addr} {n : Nat} (ha : Apart w A n g v) : Apart w1 A n g v1 := fun b o e hn => by
  obtain ⟨h1, h2, h3⟩ := ha b o e hn
  refine ⟨Nat.lt_of_lt_of_le h1 h.bx.size, h2, ?_⟩
  rcases h.blk with e1 | ⟨k, e1, e2⟩
  · rw [e1]; exact h3
  · rw [e1]; intro e3; cases e3; omega
end Go.Proofs.YtldkhbkgmiicbaaGreatDoor

/- The program's own hasNul, isType, isUpTo and mayBe, as landed at e169a841. -/
namespace Go.Proofs.YtldkhbkgmiicbaaGreatDoor
open Go.RowKit Go.Deep
set_option linter.unusedVariables false
set_option linter.unusedSimpArgs false

theorem ibs_any (s : ByteArray) (w : World) : (callFunc 147 #[.string s, .int .u8 0]).run Tryz.prog w = .ok (.value (.int .i64 (Lib.indexByte s.data.toList 0))) w := by
  rw [run_callFunc_extern (e := Extern.BytealgIndexByte.indexByte) Tryz.func147 (by kernel_rfl) (by kernel_rfl) (by kernel_rfl) (by kernel_rfl), Lib.run_indexByteString]
  rfl
theorem sib_any (s : ByteArray) (w : World) : Calls Tryz.prog 122 #[.string s, .int .u8 0] w fun e w' => e = .returned (.int .i64 (Lib.indexByte s.data.toList 0)) ∧ w' = w := by
  have hd := ibs_any s w
  go_enter Tryz.func122, Tryz.ntmps122
  go_wp2
  go_ret
  exact ⟨rfl, rfl⟩
theorem ib_any (s : ByteArray) (w : World) : Calls Tryz.prog 91 #[.string s, .int .u8 0] w fun e w' => e = .returned (.int .i64 (Lib.indexByte s.data.toList 0)) ∧ w' = w := by
  go_enter Tryz.func91, Tryz.ntmps91
  go_wp2_with (go_at_call 122; refine (sib_any _ _).mono ?_; rintro e w' ⟨rfl, hw'⟩; subst w')
  go_ret
  exact ⟨rfl, rfl⟩
theorem Hd.nul_ix (s : Hd.B) : (Hd.nul s = true → 0 ≤ Lib.indexByte s 0) ∧ (Hd.nul s = false → Lib.indexByte s 0 = -1) := by
  have hge := Lib.indexByte_ge s 0
  constructor
  · intro h
    obtain ⟨c, hc, he⟩ := List.any_eq_true.1 h
    rw [eq_of_beq he] at hc
    obtain ⟨k, hk⟩ := List.getElem?_of_mem hc
    by_cases h0 : Lib.indexByte s 0 = -1
    · exact absurd hk (Lib.indexByte_none h0 k)
    · omega
  · intro h
    by_cases h0 : 0 ≤ Lib.indexByte s 0
    · obtain ⟨j, hj⟩ : ∃ j : Nat, Lib.indexByte s 0 = j := ⟨(Lib.indexByte s 0).toNat, by omega⟩
      have := List.mem_of_getElem? (Lib.indexByte_some hj).1
      exact absurd this (Hd.nul_no h)
    · omega
theorem hnul_any (s : ByteArray) (w : World) : Calls Tryz.prog 69 #[.string s] w fun e w' => e = .returned (.bool (Hd.nul s.toList)) ∧ w' = w := by
  obtain ⟨x, hx⟩ : ∃ x, Hid (x = Lib.indexByte s.data.toList 0) := ⟨_, rfl⟩
  have e0 := Hd.nul_ix s.toList
  rw [ByteArray.toList_eq] at e0
  rw [← hx.out] at e0
  rw [ByteArray.toList_eq]
  cases hb : Hd.nul s.data.toList with
  | true =>
    have h1 := e0.1 hb
    clear e0
    go_enter Tryz.func69, Tryz.ntmps69
    go_wp2_with (go_at_call 91; refine (ib_any _ _).mono ?_; rintro e w' ⟨rfl, hw'⟩; subst w'; rw [← hx.out])
    go_ret
    exact ⟨rfl, rfl⟩
  | false =>
    have h1 : ¬ 0 ≤ x := by have := e0.2 hb; omega
    clear e0
    go_enter Tryz.func69, Tryz.ntmps69
    go_wp2_with (go_at_call 91; refine (ib_any _ _).mono ?_; rintro e w' ⟨rfl, hw'⟩; subst w'; rw [← hx.out])
    go_ret
    exact ⟨ret_bool (decide_eq_false (by omega)), rfl⟩
/-- one of the five types -/
def Hd.isT (c : Nat) : Prop := c = 48 ∨ c = 49 ∨ c = 50 ∨ c = 53 ∨ c = 120
theorem htype_yes (c : Nat) (h : Hd.isT c) (w : World) : Calls Tryz.prog 68 #[.int .u8 (c : Int)] w fun e w' => e = .returned (.bool true) ∧ w' = w := by
  rcases h with rfl | rfl | rfl | rfl | rfl
  all_goals
    go_enter Tryz.func68, Tryz.ntmps68
    go_wp2
    go_ret
    exact ⟨rfl, rfl⟩
theorem htype_no (c : Nat) (h : ¬ Hd.isT c) (w : World) : Calls Tryz.prog 68 #[.int .u8 (c : Int)] w fun e w' => e = .returned (.bool false) ∧ w' = w := by
  unfold Hd.isT at h
  have e1 : ((c : Int) == 48) = false := by rw [beq_eq_false_iff_ne]; omega
  have e2 : ((c : Int) == 49) = false := by rw [beq_eq_false_iff_ne]; omega
  have e3 : ((c : Int) == 50) = false := by rw [beq_eq_false_iff_ne]; omega
  have e4 : ((c : Int) == 53) = false := by rw [beq_eq_false_iff_ne]; omega
  have e5 : ((c : Int) == 120) = false := by rw [beq_eq_false_iff_ne]; omega
  clear h
  go_enter Tryz.func68, Tryz.ntmps68
  go_wp2
  go_ret
  exact ⟨rfl, rfl⟩
theorem hup_yes (n m : Int) (h : 0 ≤ n ∧ n ≤ m) (w : World) : Calls Tryz.prog 70 #[.int .i64 n, .int .i64 m] w fun e w' => e = .returned (.bool true) ∧ w' = w := by
  obtain ⟨h1, h2⟩ := h
  go_enter Tryz.func70, Tryz.ntmps70
  go_wp2
  go_ret
  exact ⟨rfl, rfl⟩
theorem hup_no (n m : Int) (h : n < 0 ∨ m < n) (w : World) : Calls Tryz.prog 70 #[.int .i64 n, .int .i64 m] w fun e w' => e = .returned (.bool false) ∧ w' = w := by
  by_cases h1 : 0 ≤ n
  · have h2 : ¬ n ≤ m := by omega
    go_enter Tryz.func70, Tryz.ntmps70
    go_wp2
    go_ret
    exact ⟨rfl, rfl⟩
  · go_enter Tryz.func70, Tryz.ntmps70
    go_wp2
    go_ret
    exact ⟨rfl, rfl⟩
/-- a head as a value -/
def Hd.hv (h : Hd.Hdr) : Array Value := #[.string (Hd.S h.name), .string (Hd.S h.pre), .int .i64 h.mode, .int .i64 h.size, .int .i64 h.time, .int .u8 ((h.typ.toNat : Nat) : Int), .string (Hd.S h.link)]
theorem Hd.typ_isT (c : UInt8) : (c = 48 ∨ c = 49 ∨ c = 50 ∨ c = 53 ∨ c = 120) ↔ Hd.isT c.toNat := by
  unfold Hd.isT
  have k : ∀ d : UInt8, c = d ↔ c.toNat = d.toNat := fun d => UInt8.toNat_inj.symm
  rw [k 48, k 49, k 50, k 53, k 120]
  rfl
set_option maxRecDepth 100000 in
set_option maxHeartbeats 4000000 in
theorem hmay_any (h : Hd.Hdr) (w : World) : Calls Tryz.prog 43 #[.agg (Hd.hv h)] w fun e w' => e = .returned (.int .i64 ((Hd.may h : Nat) : Int)) ∧ Bw w w' := by
  have hT := Hd.typ_isT h.typ
  obtain ⟨R, hR⟩ : ∃ R : Nat, Hid (R = Hd.may h) := ⟨_, rfl⟩
  have HR : R = Hd.may h := hR.out
  unfold Hd.may at HR
  unfold Hd.hv
  rw [← hR.out]
  clear hR
  obtain ⟨name, mode, size, time, typ, link, pre⟩ := h
  dsimp only at *
  have s1 := Hd.size_S name
  have s2 := Hd.size_S link
  have s3 := Hd.size_S pre
  have u1 := Hd.toList_S name
  have u2 := Hd.toList_S link
  have u3 := Hd.toList_S pre
  generalize Hd.S name = n at *
  generalize Hd.S link = k at *
  generalize Hd.S pre = p at *
  generalize typ.toNat = c at *
  rw [← s1, ← s2, ← s3, ← u1, ← u2, ← u3] at HR
  clear s1 s2 s3 u1 u2 u3
  have hbw : ∀ o : Obj, Bw w (w.alloc o) := fun o => bw_alloc7 (Bw.refl _) o
  by_cases hc : Hd.isT c
  · rw [if_neg (by rintro ⟨a1, a2, a3, a4, a5⟩; rcases hT.2 hc with e | e | e | e | e; exact a1 e; exact a2 e; exact a3 e; exact a4 e; exact a5 e)] at HR
    clear hT
    have HC : Hid (Hd.isT c) := hc
    clear hc
    by_cases hlong : n.size > 100 ∨ k.size > 100 ∨ p.size > 155
    · rw [if_pos hlong] at HR
      subst HR
      have done : Hid True := trivial
      by_cases a1 : 100 < (n.size : Int)
      · go_enter Tryz.func43, Tryz.ntmps43
        go_wp2_with (first | (go_at_call 68; refine (htype_yes _ HC.out _).mono ?_; rintro e w' ⟨rfl, hw'⟩; subst w'))
        go_ret
        exact ⟨rfl, hbw _⟩
      by_cases a2 : 100 < (k.size : Int)
      · go_enter Tryz.func43, Tryz.ntmps43
        go_wp2_with (first | (go_at_call 68; refine (htype_yes _ HC.out _).mono ?_; rintro e w' ⟨rfl, hw'⟩; subst w'))
        go_ret
        exact ⟨rfl, hbw _⟩
      · have a3 : 155 < (p.size : Int) := by omega
        go_enter Tryz.func43, Tryz.ntmps43
        go_wp2_with (first | (go_at_call 68; refine (htype_yes _ HC.out _).mono ?_; rintro e w' ⟨rfl, hw'⟩; subst w'))
        go_ret
        exact ⟨rfl, hbw _⟩
    · rw [if_neg hlong] at HR
      have a1 : ¬ 100 < (n.size : Int) := by omega
      have a2 : ¬ 100 < (k.size : Int) := by omega
      have a3 : ¬ 155 < (p.size : Int) := by omega
      clear hlong
      cases b1 : Hd.nul n.toList with
      | true =>
        rw [if_pos (.inl b1)] at HR
        subst HR
        go_enter Tryz.func43, Tryz.ntmps43
        go_wp2_with (first | (go_at_call 68; refine (htype_yes _ HC.out _).mono ?_; rintro e w' ⟨rfl, hw'⟩; subst w') | (go_at_call 69; refine (hnul_any _ _).mono ?_; rintro e w' ⟨rfl, hw'⟩; subst w'))
        go_ret
        exact ⟨rfl, hbw _⟩
      | false =>
      cases b2 : Hd.nul k.toList with
      | true =>
        rw [if_pos (.inr (.inl b2))] at HR
        subst HR
        go_enter Tryz.func43, Tryz.ntmps43
        go_wp2_with (first | (go_at_call 68; refine (htype_yes _ HC.out _).mono ?_; rintro e w' ⟨rfl, hw'⟩; subst w') | (go_at_call 69; refine (hnul_any _ _).mono ?_; rintro e w' ⟨rfl, hw'⟩; subst w'))
        go_ret
        exact ⟨rfl, hbw _⟩
      | false =>
      cases b3 : Hd.nul p.toList with
      | true =>
        rw [if_pos (.inr (.inr b3))] at HR
        subst HR
        go_enter Tryz.func43, Tryz.ntmps43
        go_wp2_with (first | (go_at_call 68; refine (htype_yes _ HC.out _).mono ?_; rintro e w' ⟨rfl, hw'⟩; subst w') | (go_at_call 69; refine (hnul_any _ _).mono ?_; rintro e w' ⟨rfl, hw'⟩; subst w'))
        go_ret
        exact ⟨rfl, hbw _⟩
      | false =>
        rw [if_neg (by rw [b1, b2, b3]; simp)] at HR
        by_cases hm : 0 ≤ mode ∧ mode ≤ 4095
        · have HM : Hid (0 ≤ mode ∧ mode ≤ 4095) := hm
          by_cases hs : 0 ≤ size ∧ size ≤ 8589934591
          · have HS : Hid (0 ≤ size ∧ size ≤ 8589934591) := hs
            by_cases ht : 0 ≤ time ∧ time ≤ 1099511627776
            · have HT : Hid (0 ≤ time ∧ time ≤ 1099511627776) := ht
              rw [if_neg (by omega)] at HR
              subst HR
              clear hm hs ht
              go_enter Tryz.func43, Tryz.ntmps43
              go_wp2_with (first | (go_at_call 68; refine (htype_yes _ HC.out _).mono ?_; rintro e w' ⟨rfl, hw'⟩; subst w') | (go_at_call 69; refine (hnul_any _ _).mono ?_; rintro e w' ⟨rfl, hw'⟩; subst w') | (go_at_call_of 70 mode; refine (hup_yes _ _ HM.out _).mono ?_; rintro e w' ⟨rfl, hw'⟩; subst w') | (go_at_call_of 70 size; refine (hup_yes _ _ HS.out _).mono ?_; rintro e w' ⟨rfl, hw'⟩; subst w') | (go_at_call_of 70 time; refine (hup_yes _ _ HT.out _).mono ?_; rintro e w' ⟨rfl, hw'⟩; subst w'))
              go_ret
              exact ⟨rfl, hbw _⟩
            · have HT : Hid (time < 0 ∨ 1099511627776 < time) := by show _ ∨ _; omega
              rw [if_pos (by omega)] at HR
              subst HR
              clear hm hs ht
              go_enter Tryz.func43, Tryz.ntmps43
              go_wp2_with (first | (go_at_call 68; refine (htype_yes _ HC.out _).mono ?_; rintro e w' ⟨rfl, hw'⟩; subst w') | (go_at_call 69; refine (hnul_any _ _).mono ?_; rintro e w' ⟨rfl, hw'⟩; subst w') | (go_at_call_of 70 mode; refine (hup_yes _ _ HM.out _).mono ?_; rintro e w' ⟨rfl, hw'⟩; subst w') | (go_at_call_of 70 size; refine (hup_yes _ _ HS.out _).mono ?_; rintro e w' ⟨rfl, hw'⟩; subst w') | (go_at_call_of 70 time; refine (hup_no _ _ HT.out _).mono ?_; rintro e w' ⟨rfl, hw'⟩; subst w'))
              go_ret
              exact ⟨rfl, hbw _⟩
          · have HS : Hid (size < 0 ∨ 8589934591 < size) := by show _ ∨ _; omega
            rw [if_pos (by omega)] at HR
            subst HR
            clear hm hs
            go_enter Tryz.func43, Tryz.ntmps43
            go_wp2_with (first | (go_at_call 68; refine (htype_yes _ HC.out _).mono ?_; rintro e w' ⟨rfl, hw'⟩; subst w') | (go_at_call 69; refine (hnul_any _ _).mono ?_; rintro e w' ⟨rfl, hw'⟩; subst w') | (go_at_call_of 70 mode; refine (hup_yes _ _ HM.out _).mono ?_; rintro e w' ⟨rfl, hw'⟩; subst w') | (go_at_call_of 70 size; refine (hup_no _ _ HS.out _).mono ?_; rintro e w' ⟨rfl, hw'⟩; subst w'))
            go_ret
            exact ⟨rfl, hbw _⟩
        · have HM : Hid (mode < 0 ∨ 4095 < mode) := by show _ ∨ _; omega
          rw [if_pos (by omega)] at HR
          subst HR
          clear hm
          go_enter Tryz.func43, Tryz.ntmps43
          go_wp2_with (first | (go_at_call 68; refine (htype_yes _ HC.out _).mono ?_; rintro e w' ⟨rfl, hw'⟩; subst w') | (go_at_call 69; refine (hnul_any _ _).mono ?_; rintro e w' ⟨rfl, hw'⟩; subst w') | (go_at_call_of 70 mode; refine (hup_no _ _ HM.out _).mono ?_; rintro e w' ⟨rfl, hw'⟩; subst w'))
          go_ret
          exact ⟨rfl, hbw _⟩
  · have HC : Hid (¬ Hd.isT c) := hc
    rw [if_pos (by refine ⟨fun e => hc (hT.1 (.inl e)), fun e => hc (hT.1 (.inr (.inl e))), fun e => hc (hT.1 (.inr (.inr (.inl e)))), fun e => hc (hT.1 (.inr (.inr (.inr (.inl e))))), fun e => hc (hT.1 (.inr (.inr (.inr (.inr e)))))⟩)] at HR
    subst HR
    clear hT hc
    go_enter Tryz.func43, Tryz.ntmps43
    go_wp2_with (go_at_call 68; refine (htype_no _ HC.out _).mono ?_; rintro e w' ⟨rfl, hw'⟩; subst w')
    go_ret
    exact ⟨rfl, hbw _⟩
end Go.Proofs.YtldkhbkgmiicbaaGreatDoor

/- The program's own taken, Sum, Seal, Blank and Full, as landed at e169a841. -/
namespace Go.Proofs.YtldkhbkgmiicbaaGreatDoor
open Go.RowKit Go.Deep
set_option linter.unusedVariables false
set_option linter.unusedSimpArgs false

theorem results_row_tmp10 {P : Program} {fn : Func} {p u : Tmp} {ty : TypeId} (h : fn.results = #[.cell p ty, .tmp u]) (tmps : Array Value) (w : World) (g : Nat) (t : TypeId) (cs : Array Value) (fr : Nat × Nat) (d : TypeDesc)
    (hp : tmps.getD p undef = .pointer (some ⟨g, 0, none⟩)) (hg : w.heap[g]? = some (.cells cs t fr))
    (hu : P.underlying ty = some d) (hd : (match d with | .struct _ | .array _ _ => true | _ => false) = true) (hi : (P.info? ty).map (·.size) = some cs.size) :
    (results fn tmps).run P w = .ok (.tuple #[.agg cs, tmps.getD u undef]) w := by
  rw [results_cell_tmp h, hp]
  simp [asAddr, run_loadVar_row w g t ty cs fr d hg hu hd hi, Result.andThen]
theorem wpList_built10 {P : Program} {ops : Array Oper} {rest : List Oper} {o : Oper} {a : Act} {w : World} {Q : Exit → Act → World → Prop} (hg : o.guard = none) (t : TypeId) (parts : Array (Nat × Operand)) (ho : o.op = .build t parts)
    (cells : Array Value) (hb : P.built t (parts.map fun (i, x) => (i, a.eval x)).toList = some cells)
    (h : wpList P ops Q rest (a.put o.dst (.agg cells)) w) : wpList P ops Q (o :: rest) a w :=
  wpList_build hg t parts ho (by rw [hb]; rfl) (by rw [hb]; exact h)
theorem built_raw : Tryz.prog.built 84 [] = some (Hd.arr Hd.zeros) := by kernel_rfl
theorem guard_raw : Tryz.prog.eqGuardType Tryz.prog.depth 84 = false := by kernel_rfl
theorem size_u8x (w : World) : (sizeOf 5).run Tryz.prog w = .ok 1 w := by
  obtain ⟨i0, hi0, _, hz1, _⟩ := info_parts info_u8
  simp [sizeOf, typeInfo, hi0, hz1]
theorem equal_raw {a b : Hd.B} (ha : a.length = 512) (hb : b.length = 512) (w : World) : (Op.equalIn 10000 84 (.agg (Hd.arr a)) (.agg (Hd.arr b))).run Tryz.prog w = .ok (a == b) w :=
  run_equalIn_bytes w 9998 84 5 512 Tryz.underlying84 Tryz.underlying5 size_u8x a b ha hb

theorem zeros_len : Hd.zeros.length = 512 := by unfold Hd.zeros; exact List.length_replicate
set_option maxRecDepth 100000 in
theorem htaken_no (A : Option Addr) (n ca : Nat) (hn : n ≠ 512) (w : World) : Calls Tryz.prog 40 #[.slice A n ca] w fun e w' => e = .returned (.tuple #[.agg (Hd.arr Hd.zeros), .bool false]) ∧ Bw w w' := by
  have hz := zero_raw
  have hbt := built_raw
  obtain ⟨Z, hZ⟩ : ∃ Z, Hid (Z = Hd.arr Hd.zeros) := ⟨_, rfl⟩
  have hi := info_raw zeros_len
  have ho := Hd.arr_one Hd.zeros
  have HO : Hid ((Hd.arr Hd.zeros).all (·.oneCell') = true) := ho
  rw [← hZ.out] at hz hbt hi HO ⊢
  clear ho
  have e1 : ((n : Int) != 512) = true := by rw [bne_iff_ne]; omega
  obtain ⟨W, hW⟩ : ∃ W, W = (w.alloc (.cells Z 84)).alloc (.cells Z 84) := ⟨_, rfl⟩
  have hB : W.heap[w.heap.size]? = some (.cells Z 84 (0, 0)) := by rw [hW]; exact heap_alloc2_old _ _ _
  have hbw : Bw w W := by rw [hW]; exact bw_alloc2 _ _ _
  go_enter Tryz.func40, Tryz.ntmps40
  go_wp2_with (first
    | refine wpList_built10 rfl 84 _ rfl Z hbt ?_
    | (rw [← hW]; clear hW; refine wpList_store_row rfl 84 _ _ rfl w.heap.size Z rfl rfl 84 Z hB hi rfl HO.out ?_))
  exact bodyPost_ret (results_row_tmp10 (p := 2) (u := 3) (by rfl) _ _ w.heap.size 84 Z (0, 0) _ rfl (setRow_heap _ w.heap.size _ _ _ _ hB) Tryz.underlying84 rfl hi) rfl ⟨rfl, bw_of_bx hbw (bx_set _ w.heap.size _ rfl) (fun k e => by omega)⟩
set_option maxRecDepth 100000 in
theorem htaken_yes (A : Option Addr) (ca : Nat) (l : Hd.B) (hl : l.length = 512) (w : World) (hr : RowAt w A 512 (Hd.rowF l)) : Calls Tryz.prog 40 #[.slice A 512 ca] w fun e w' => e = .returned (.tuple #[.agg (Hd.arr l), .bool true]) ∧ Bw w w' := by
  have hz := zero_raw
  obtain ⟨W, hW⟩ : ∃ W, W = (w.alloc (.cells (Hd.arr Hd.zeros) 84)).alloc (.cells (Hd.arr Hd.zeros) 84) := ⟨_, rfl⟩
  have hB : W.heap[w.heap.size]? = some (.cells (Hd.arr Hd.zeros) 84 (0, 0)) := by rw [hW]; exact heap_alloc2_old _ _ _
  have hA : ArrAt W (w.heap.size + 1) Hd.zeros := by rw [hW]; exact heap_alloc2_new _ _ _
  have hbw : Bw w W := by rw [hW]; exact bw_alloc2 _ _ _
  have hr1 := hr.keep hbw
  have hi := info_raw hl
  have hzs : (Hd.arr Hd.zeros).size = (Hd.arr l).size := by rw [Hd.arr_size, Hd.arr_size, hl]; rfl
  have HS : Hid ((Hd.arr Hd.zeros).size = (Hd.arr l).size) := hzs
  obtain ⟨Z, hZ⟩ : ∃ Z, Hid (Z = Hd.arr Hd.zeros) := ⟨_, rfl⟩
  rw [← hZ.out] at hz hW hB HS
  have HL : Hid (Hd.ovl Hd.zeros 0 l = l) := by
    show _ = _
    unfold Hd.ovl
    rw [List.take_zero, List.nil_append, List.drop_eq_nil_of_le (by rw [zeros_len]; omega), List.append_nil]
  have hlen : Hid (l.length = 512) := hl
  clear hzs hr hl
  go_enter Tryz.func40, Tryz.ntmps40
  go_wp2_with (first
    | (rw [← hW]; clear hW; refine wpList_copy_arr (by rfl) _ _ (by rfl) (w.heap.size + 1) 0 512 512 512 ca Hd.zeros l A (by rfl) (by rfl) hA hlen.out (by rw [zeros_len]; omega) (Nat.le_refl _) (by omega) hr1 ?_; rw [HL.out]; intro w2 ha2 hx2; have hB2 := (hx2.block _ (Array.getElem?_eq_some_iff.1 hB).1 (by omega)).trans hB)
    | refine wpList_load_row rfl 84 _ rfl (w.heap.size + 1) rfl 84 (Hd.arr l) (0, 0) _ ha2 Tryz.underlying84 rfl hi ?_
    | refine wpList_store_row rfl 84 _ _ rfl w.heap.size (Hd.arr l) rfl rfl 84 Z hB2 hi HS.out (Hd.arr_one _) ?_)
  exact bodyPost_ret (results_row_tmp10 (p := 2) (u := 3) (by rfl) _ _ w.heap.size 84 (Hd.arr l) (0, 0) _ rfl (setRow_heap _ w.heap.size _ _ _ _ hB2) Tryz.underlying84 rfl hi) rfl ⟨rfl, bw_of_bx (bw_of_bx hbw hx2 (fun k e => by omega)) (bx_set _ w.heap.size _ rfl) (fun k e => by omega)⟩
end Go.Proofs.YtldkhbkgmiicbaaGreatDoor

/- The library's own table of powers of ten: what the card's condition tells of it. -/
namespace Go.Proofs.YtldkhbkgmiicbaaGreatDoor
open Go.RowKit Go.Deep

/-- the powers of ten stand in the library's own table -/
def KAt (w : World) : Prop := Lib.TabIs Tryz.prog w "internal/strconv.uint64pow10" .u64 Lib.pow10Tab
theorem gK : ∃ g, Tryz.prog.globalNamed "internal/strconv.uint64pow10" = some g ∧ (Tryz.prog.globals[g]?).map (·.type) = some 210 := ⟨2, by kernel_rfl, by kernel_rfl⟩
theorem KAt.keep {w w' : World} (h : KAt w) (k : Bw w w') : KAt w' := by
  obtain ⟨g, hg, -⟩ := gK
  exact Joins.tab_stays hg h k (Nat.le_refl _)
def laidK : List (String × DataW Unit) := [("math/bits.deBruijn32tab", Rows.laid_math_bits_deBruijn32tab), ("math/bits.deBruijn64tab", Rows.laid_math_bits_deBruijn64tab), ("internal/strconv.uint64pow10", Rows.laid_internal_strconv_uint64pow10)]
theorem kat_of_laid {W : World} (h : laidMetH Tryz.prog laidK W) : KAt W := by
  rw [MakeChecks.laidMetH_plain _ _ _ (by kernel_rfl)] at h
  obtain ⟨g, hg, ht⟩ := gK
  have h1 := laidMet.filter (fun x => x.1 == "internal/strconv.uint64pow10") h
  rw [show laidK.filter (fun x => x.1 == "internal/strconv.uint64pow10") = [("internal/strconv.uint64pow10", Lib.tabData .u64 Lib.pow10Tab)] from by kernel_rfl] at h1
  exact Lib.tabIs_of_head (k := .u64) (zs := Lib.pow10Tab) hg ht Tryz.underlying210 Tryz.underlying194 (by kernel_rfl) (by kernel_rfl) h1
theorem door_met (os : Os) (args : Array Value) : laidMetH Tryz.prog laidK ((World.doorLaid Tryz.prog 400 os).forCall (fun _ _ => 0) ⟨#[], args, []⟩).memory :=
  laidMetH_of_parts3 (fuel := 8) (laidMet_of_run' 8 (by kernel_rfl) (by kernel_rfl)) (by kernel_rfl) (by kernel_rfl)
end Go.Proofs.YtldkhbkgmiicbaaGreatDoor

/- Layer 14: New, readsAs. -/
import Derived.Test.YtppknadflmjefaaC2
import Derived.Deep.MidRow
namespace Go.Proofs.Ytppknadflmjefaa
open Go.RowKit Go.Deep Go.Maps
set_option linter.unusedVariables false
set_option linter.unusedSimpArgs false

/-- a row of whole numbers -/
def IntsAt (w : World) (A : Option Addr) (L : Nat) (f : Nat → Int) : Prop :=
  (L = 0 ∨ ∃ b off, A = some ⟨b, off, none⟩ ∧ ∀ i, i < L → w.cell? ⟨b, off + i, none⟩ = some (.int .i64 (f i))) ∧ ∀ i, -9223372036854775808 ≤ f i ∧ f i ≤ 9223372036854775807
theorem IntsAt.keep {w w' : World} {A : Option Addr} {L : Nat} {f : Nat → Int} (h : IntsAt w A L f) (g : Bw w w') : IntsAt w' A L f := by
  refine ⟨?_, h.2⟩
  rcases h.1 with h0 | ⟨b, off, hA, hc⟩
  · exact Or.inl h0
  · refine Or.inr ⟨b, off, hA, fun i hi => ?_⟩
    have := hc i hi
    rw [g.cell (p := ⟨b, off + i, none⟩) (block_lt_of_cell this)]
    exact this
theorem IntsAt.keepx {S : Nat → Prop} {w w' : World} {A : Option Addr} {L : Nat} {f : Nat → Int} (h : IntsAt w A L f) (k : Bx S w w') (hA : ∀ b o, A = some ⟨b, o, none⟩ → 0 < L → ¬ S b) : IntsAt w' A L f := by
  refine ⟨?_, h.2⟩
  rcases h.1 with h0 | ⟨b, off, e, hc⟩
  · exact Or.inl h0
  · by_cases h0 : L = 0
    · exact Or.inl h0
    · refine Or.inr ⟨b, off, e, fun i hi => ?_⟩
      have h1 := hc i hi
      rw [World.cell?_of_block (w := w) (k.block b (block_lt_of_cell h1) (hA b off e (by omega)))]
      exact h1
theorem IntsAt.at {w : World} {A : Option Addr} {L : Nat} {f : Nat → Int} (h : IntsAt w A L f) {k : Nat} (hk : k < L) : ∃ b off, A = some ⟨b, off, none⟩ ∧ w.cell? ⟨b, off + k, none⟩ = some (.int .i64 (f k)) := by
  rcases h.1 with h0 | ⟨b, off, e, hc⟩
  · omega
  · exact ⟨b, off, e, hc k hk⟩

/-- how many bytes the i-th keeps -/
def Dsk.kept (K : Nat → Int) (m i : Nat) : Nat := if i < m then (K i % 65).toNat else 0
theorem Dsk.kept_le (K : Nat → Int) (m i : Nat) : Dsk.kept K m i ≤ 64 := by unfold Dsk.kept; split <;> omega
theorem tmod65 (z : Int) : (z.tmod 65 + 65) % 65 = z % 65 := by
  by_cases h : 0 ≤ z
  · rw [Int.tmod_eq_emod_of_nonneg h]
    omega
  · obtain ⟨y, rfl⟩ : ∃ y : Nat, z = -(y : Int) := ⟨(-z).toNat, by omega⟩
    rw [Int.neg_tmod, Int.tmod_eq_emod_of_nonneg (by omega)]
    omega
theorem kept_any (A : Option Addr) (m cap i : Nat) (K : Nat → Int) (w : World) (h : IntsAt w A m K) (hi : i ≤ 65536) (hm : m ≤ 140737488355328) :
    Calls Try.prog 39 #[.slice A m cap, .int .i64 (i : Int)] w fun e w' => e = .returned (.int .i64 ((Dsk.kept K m i : Nat) : Int)) ∧ w' = w := by
  by_cases hlt : i < m
  · obtain ⟨b, off, rfl, hc⟩ := h.at hlt
    have hb := h.2 i
    have k0 : (0 : Int) ≤ (i : Int) := Int.natCast_nonneg _
    have k1 : (i : Int) < (m : Int) := by omega
    have e1 : ((Dsk.kept K m i : Nat) : Int) = ((K i).tmod 65 + 65) % 65 := by rw [tmod65]; unfold Dsk.kept; rw [if_pos hlt]; omega
    have hr : -64 ≤ (K i).tmod 65 ∧ (K i).tmod 65 ≤ 64 := by
      have h1 := Int.tmod_lt_of_pos (K i) (show (0 : Int) < 65 by decide)
      have h2 := Int.lt_tmod_of_pos (K i) (show (0 : Int) < 65 by decide)
      omega
    have E1 : Hid (((Dsk.kept K m i : Nat) : Int) = ((K i).tmod 65 + 65) % 65) := e1
    clear e1
    go_enter Try.func39, Try.ntmps39
    go_wp2
    go_ret
    exact ⟨by rw [E1.out]; rfl, rfl⟩
  · have k1 : ¬ (i : Int) < (m : Int) := by omega
    have e1 : Dsk.kept K m i = 0 := by unfold Dsk.kept; rw [if_neg hlt]
    rw [e1]
    go_enter Try.func39, Try.ntmps39
    go_wp2
    go_ret
    exact ⟨rfl, rfl⟩

theorem infoS : (Try.prog.info? 77).map (fun i => (i.zero, i.size, i.bytes)) = some (some (.agg (secV (fun _ => 0) 0)), 64, 64) := by kernel_rfl
theorem sizeS (f : Nat → Int) (s : Nat) : (Try.prog.info? 77).map (·.size) = some (secV f s).size := by
  rw [secV_size]; kernel_rfl
theorem secV_all (f : Nat → Int) (s : Nat) : (secV f s).all (·.oneCell') = true := by
  unfold secV
  exact all_oneCell_toArray (cellsU_one _ _)
theorem bx_setCells (w : World) (g : Nat) : ∀ (vs : List Value) (o : Nat), Bx (· = g) w (w.setCells g o vs) := by
  intro vs
  induction vs generalizing w with
  | nil => intro o; exact Bx.refl _ _
  | cons v r ih =>
    intro o
    rw [World.setCells]
    have h1 : Bx (· = g) w (w.setCell ⟨g, o, none⟩ v) := (Bx.refl _ w).put rfl
    exact h1.trans (ih _ _)
theorem block_setCells {g t : Nat} : ∀ {w : World} (vs : List Value) (o : Nat) {cur : Array Value}, w.heap[g]? = some (.cells cur t (0, 0)) → ∃ cur', (w.setCells g o vs).heap[g]? = some (.cells cur' t (0, 0)) ∧ cur'.size = cur.size
  | w, [], o, cur, h => ⟨cur, h, rfl⟩
  | w, v :: r, o, cur, h => by
    rw [World.setCells]
    obtain ⟨cur', h1, h2⟩ := block_setCells r (o + 1) (heap_setCell_same w g o cur _ v h)
    exact ⟨cur', h1, by rw [h2]; simp⟩
/-- a sector in a block of its own -/
def SecAt (w : World) (g : Nat) (f : Nat → Int) (s : Nat) : Prop := w.heap[g]? = some (.cells (secV f s) 77 (0, 0))
theorem SecAt.blk {w : World} {g : Nat} {f : Nat → Int} {s : Nat} (h : SecAt w g f s) : BlkT w g 77 64 (fun c => f (64 * s + c)) := ⟨_, h, secV_size f s, fun c hc => secV_at f s hc⟩
theorem SecAt.of {w : World} {g : Nat} {f h : Nat → Int} {s : Nat} (hb : BlkT w g 77 64 h) (e : ∀ c, c < 64 → f (64 * s + c) = h c) : SecAt w g f s := by
  obtain ⟨cur, h1, h2, h3⟩ := hb
  unfold SecAt
  rw [h1]
  have : cur = secV f s := by
    apply Array.ext
    · rw [h2, secV_size]
    · intro c hc hc'
      have h4 := h3 c (by omega)
      have h5 := secV_at f s (c := c) (by omega)
      rw [Array.getElem?_eq_getElem hc] at h4
      rw [Array.getElem?_eq_getElem hc'] at h5
      rw [Option.some.inj h4, Option.some.inj h5, e c (by omega)]
  rw [this]
theorem SecAt.keep {w w' : World} {g : Nat} {f : Nat → Int} {s : Nat} (h : SecAt w g f s) (k : Bw w w') : SecAt w' g f s := (k.block g (Array.getElem?_eq_some_iff.1 h).1).trans h
theorem SecAt.keepx {S : Nat → Prop} {w w' : World} {g : Nat} {f : Nat → Int} {s : Nat} (h : SecAt w g f s) (k : Bx S w w') (hg : ¬ S g) : SecAt w' g f s := (k.block g (Array.getElem?_eq_some_iff.1 h).1 hg).trans h
theorem SecAt.lt {w : World} {g : Nat} {f : Nat → Int} {s : Nat} (h : SecAt w g f s) : g < w.heap.size := (Array.getElem?_eq_some_iff.1 h).1
theorem sec_new (w : World) : SecAt (w.alloc (.cells (secV (fun _ => 0) 0) 77)) w.heap.size (fun _ => 0) 0 := (Go.MapKept.heap_alloc _ _).1
/-- 'var s sector' -/
theorem wpList_allocS {w : World} {ops : Array Oper} {rest : List Oper} {o : Oper} {a : Act} {Q : Exit → Act → World → Prop} (hgd : o.guard = none) (ho : o.op = Op.alloc 77)
    (h : ∀ W' q, w.heap.size ≤ q → Bw w W' → SecAt W' q (fun _ => 0) 0 → wpList Try.prog ops Q rest (a.put o.dst (.pointer (some ⟨q, 0, none⟩))) W') : wpList Try.prog ops Q (o :: rest) a w := by
  have h1 := h (w.alloc (.cells (secV (fun _ => 0) 0) 77)) w.heap.size (Nat.le_refl _) (Below.alloc (Below.refl _ _) (Nat.le_refl _) _) (sec_new w)
  refine wpList_plain hgd fun K' hK' => ?_
  have hc : (Value.agg (secV (fun _ => 0) 0)).cells = secV (fun _ => 0) 0 := rfl
  unfold Oper.wp
  simp [execOp, ho, go_sem, Instr.alloc, zeroSec, hc, Result.andThen]
  exact hK' _ _ h1
/-- a whole sector stored into a block -/
theorem wpList_storeS {w : World} {ops : Array Oper} {rest : List Oper} {o : Oper} {a : Act} {Q : Exit → Act → World → Prop} (hgd : o.guard = none) (x y : Operand) (ho : o.op = .store 77 x y)
    (g : Nat) (f f0 : Nat → Int) (s s0 : Nat) (hx : a.eval x = .pointer (some ⟨g, 0, none⟩)) (hy : a.eval y = .agg (secV f s)) (hg : SecAt w g f0 s0)
    (h : ∀ W', Bx (· = g) w W' → SecAt W' g f s → wpList Try.prog ops Q rest (a.put o.dst undef) W') : wpList Try.prog ops Q (o :: rest) a w := by
  refine wpList_store_row hgd 77 x y ho g (secV f s) hx hy 77 (secV f0 s0) hg (sizeS f s) (by rw [secV_size, secV_size]) (secV_all f s) ?_
  exact h _ ⟨rfl, rfl, rfl, by simp [World.setRow], fun k _ hk => setRow_other w g k _ (by omega)⟩ (setRow_heap w g _ _ _ _ hg)
/-- what a sector reads as -/
def Dsk.read (S : Dsk) (p : Nat) : Int := if S.is (p / 64) then S.wait p else S.last p
theorem Dsk.Ok.read {S : Dsk} (h : S.Ok) (p : Nat) : 0 ≤ S.read p ∧ S.read p < 256 := by unfold Dsk.read; split; exact h.wb p; exact h.lb p
theorem read_yes {S : Dsk} {s : Nat} (h : S.is s = true) : secV S.read s = secV S.wait s := secV_congr (fun c hc => by unfold Dsk.read; rw [show (64 * s + c) / 64 = s by omega, h]; rfl)
theorem read_no {S : Dsk} {s : Nat} (h : S.is s = false) : secV S.read s = secV S.last s := secV_congr (fun c hc => by unfold Dsk.read; rw [show (64 * s + c) / 64 = s by omega, h]; rfl)
theorem BlkT.range {w : World} {lb t n : Nat} {f : Nat → Int} (h : BlkT w lb t (64 * n) f) {s : Nat} (hs : s < n) : w.rangeAt lb (s * 64) (secV f s).toList := fun j v hv => by
  have hj : j < 64 := by have := (List.getElem?_eq_some_iff.1 hv).1; rw [Array.length_toList, secV_size] at this; exact this
  rw [show s * 64 + j = 64 * s + j by omega, (h.cell (by omega)).1, ← secV_at f s hj, ← Array.getElem?_toList]; exact hv
theorem BlkT.there {w : World} {lb t n : Nat} {f : Nat → Int} (h : BlkT w lb t (64 * n) f) {s : Nat} (hs : s < n) : w.there lb (s * 64) 64 := fun j hj => by
  rw [(h.cell (by omega)).1]; exact ⟨rfl, (h.cell (by omega)).2⟩
/-- a whole sector loaded out of many -/
theorem wpList_loadS {w : World} {ops : Array Oper} {rest : List Oper} {o : Oper} {a : Act} {Q : Exit → Act → World → Prop} (hgd : o.guard = none) (x : Operand) (ho : o.op = .load 77 x)
    (lb t n s : Nat) (f : Nat → Int) (hx : a.eval x = .pointer (some ⟨lb, s * 64, none⟩)) (hb : BlkT w lb t (64 * n) f) (hs : s < n)
    (h : wpList Try.prog ops Q rest (a.put o.dst (.agg (secV f s))) w) : wpList Try.prog ops Q (o :: rest) a w := by
  refine wpList_load_mid hgd 77 x ho lb (s * 64) hx (secV f s).toList _ (hb.range hs) Try.underlying77 rfl (by rw [Array.length_toList]; exact sizeS _ _) ?_
  rw [Array.toArray_toList]; exact h
/-- .. out of a block of its own -/
theorem wpList_loadB {w : World} {ops : Array Oper} {rest : List Oper} {o : Oper} {a : Act} {Q : Exit → Act → World → Prop} (hgd : o.guard = none) (x : Operand) (ho : o.op = .load 77 x)
    (g s : Nat) (f : Nat → Int) (hx : a.eval x = .pointer (some ⟨g, 0, none⟩)) (hb : SecAt w g f s)
    (h : wpList Try.prog ops Q rest (a.put o.dst (.agg (secV f s))) w) : wpList Try.prog ops Q (o :: rest) a w := by
  refine wpList_load_mid hgd 77 x ho g 0 hx (secV f s).toList _ ?_ Try.underlying77 rfl (by rw [Array.length_toList]; exact sizeS _ _) ?_
  · have := World.rangeAt_of_block hb 0 64
    rw [Nat.zero_add, show (secV f s).extract 0 64 = secV f s by have := secV_size f s; rw [← this]; exact Array.extract_size] at this
    exact this
  · rw [Array.toArray_toList]; exact h
/-- a whole sector stored among many -/
theorem storeM_world {w : World} {lb t n s : Nat} {f k f' : Nat → Int} (hb : BlkT w lb t (64 * n) f) (hs : s < n)
    (h1 : ∀ c, c < 64 → f' (64 * s + c) = k (64 * s + c)) (h2 : ∀ p, p / 64 ≠ s → f' p = f p) : BlkT (w.setCells lb (s * 64) (secV k s).toList) lb t (64 * n) f' := by
  have hsz := secV_size k s
  have hth : w.there lb (s * 64) (secV k s).toList.length := by rw [Array.length_toList, hsz]; exact hb.there hs
  obtain ⟨cur, c1, c2, c3⟩ := hb
  obtain ⟨cur', e1, e2⟩ := block_setCells (secV k s).toList (s * 64) c1
  refine ⟨cur', e1, by rw [e2, c2], fun c hc => ?_⟩
  have hcell : (w.setCells lb (s * 64) (secV k s).toList).cell? ⟨lb, c, none⟩ = cur'[c]? := cell_of_row _ lb c cur' _ _ e1
  rw [← hcell]
  by_cases e : c / 64 = s
  · have := World.rangeAt_setCells_same w lb (s * 64) (secV k s).toList hth (c % 64) (.int .u8 (k c)) (by
      rw [Array.getElem?_toList, secV_at k s (by omega), show 64 * s + c % 64 = c by omega])
    rw [show s * 64 + c % 64 = c by omega] at this
    rw [this]
    have h3 := h1 (c % 64) (by omega)
    rw [show 64 * s + c % 64 = c by omega] at h3
    rw [h3]
  · rw [World.cell?_setCells_out lb _ (s * 64) w ⟨lb, c, none⟩ (fun _ _ => by show c < s * 64 ∨ s * 64 + (secV k s).toList.length ≤ c; rw [Array.length_toList, hsz]; omega), cell_of_row w lb c cur _ _ c1, c3 c hc, h2 c e]
/-- .. at a step of a drawn region -/
theorem step_storeM {w : World} {ops : Array Oper} {o : Oper} {a : Act} {K : Act → World → Prop} {Q : Exit → Act → World → Prop} {E : Prop} (hgd : o.guard = none) (x y : Operand) (ho : o.op = .store 77 x y)
    (lb t n s : Nat) (f k f' : Nat → Int) (hx : a.eval x = .pointer (some ⟨lb, s * 64, none⟩)) (hy : a.eval y = .agg (secV k s)) (hb : BlkT w lb t (64 * n) f) (hs : s < n)
    (h1 : ∀ c, c < 64 → f' (64 * s + c) = k (64 * s + c)) (h2 : ∀ p, p / 64 ≠ s → f' p = f p)
    (h : ∀ W', Bx (· = lb) w W' → BlkT W' lb t (64 * n) f' → K (a.put o.dst undef) W') :
    if Region.wanted o (yielded ops a.tmps) = true then Oper.wp Try.prog o a w K Q else E := by
  have hw : Region.wanted o (yielded ops a.tmps) = true := by simp [Region.wanted, hgd]
  rw [if_pos hw]
  have hsz := secV_size k s
  exact wp_store_mid 77 x y ho lb (s * 64) (secV k s) hx hy (by rw [hsz]; exact hb.there hs) (sizeS k s) (secV_all k s) (h _ (bx_setCells w lb _ _) (storeM_world hb hs h1 h2))

end Go.Proofs.Ytppknadflmjefaa
namespace Go.Proofs.Ytppknadflmjefaa
open Go.RowKit Go.Deep Go.Maps
set_option linter.unusedVariables false
set_option linter.unusedSimpArgs false

theorem heap3_new (w : World) (A B C : Obj) : (((w.alloc A).alloc B).alloc C).heap[w.heap.size + 1 + 1]? = some C := by
  have := (Go.MapKept.heap_alloc ((w.alloc A).alloc B) C).1
  rwa [size_alloc, size_alloc] at this
theorem heap3_old (w : World) (A B C : Obj) : (((w.alloc A).alloc B).alloc C).heap[w.heap.size]? = some A := by
  have h1 := (Go.MapKept.heap_alloc w A).1
  have b1 : Bw (w.alloc A) ((w.alloc A).alloc B) := Below.alloc (Bw.refl _) (Nat.le_refl _) _
  have b2 : Bw ((w.alloc A).alloc B) (((w.alloc A).alloc B).alloc C) := Below.alloc (Bw.refl _) (Nat.le_refl _) _
  exact ((b1.trans b2).block _ (by rw [size_alloc]; omega)).trans h1
theorem bw_bx {a b c : World} {g : Nat} (h : Bw a b) (k : Bx (· = g) b c) (hg : a.heap.size ≤ g) : Bw a c := Below.trans h (k.below h.size (fun x e => by omega))
set_option maxRecDepth 100000 in
theorem readsas_any {w : World} {g lb gm : Nat} {S : Dsk} (h : DiskAt w g lb gm S) {s : Nat} (hs : s < S.n) :
    Calls Try.prog 42 #[.pointer (some ⟨g, 0, none⟩), .int .i64 (s : Int)] w fun e w' => e = .returned (.agg (secV S.read s)) ∧ Bw w w' := by
  have hn := h.ok.n1
  have k0 : (0 : Int) ≤ (s : Int) := Int.natCast_nonneg _
  have k1 : (s : Int) < (S.n : Int) := by omega
  have H0 : Hid (∀ W, Bw w W → W.cell? ⟨g, 0, none⟩ = some (.slice (some ⟨lb, 0, none⟩) S.n S.n)) := fun W b => (h.keep b).c0
  have H1 : Hid (∀ W, Bw w W → W.cell? ⟨g, 1, none⟩ = some (.map (some gm))) := fun W b => (h.keep b).c1
  have HL : Hid (∀ W, Bw w W → (Instr.lookup 61 (.map (some gm)) (.int .i64 (s : Int)) true).run Try.prog W = .ok (.tuple #[.agg (secV (if S.is s then S.wait else fun _ => 0) s), .bool (S.is s)]) W) := fun W b => (h.keep b).map.look_ok h.ok.wb hn hs
  have HR : Hid (∀ W, Bw w W → BlkT W lb 77 (64 * S.n) S.last) := fun W b => (h.keep b).rows
  have tok1 : Hid (g = g) := rfl
  cases hi : S.is s
  · have hrd := read_no hi
    rw [hi, if_neg (by decide)] at HL
    rw [hrd]
    clear hrd h
    go_enter Try.func42, Try.ntmps42
    go_wp2_with (first
      | (clear tok1; refine wpList_allocS (by rfl) (by rfl) ?_; intro W1 q1 hq1 hb1 hs1; have d1 := H1.out W1 hb1; have l1 := HL.out W1 hb1; have tok2 : Hid (g = g) := rfl)
      | (clear tok2; refine wpList_allocS (by rfl) (by rfl) ?_; intro W2 q2 hq2 hb2 hs2; have hb2' := hb1.trans hb2; have hs12 := hs1.keep hb2; have hne := Nat.ne_of_lt (Nat.lt_of_lt_of_le hs1.lt hq2); have tok3 : Hid (g = g) := rfl)
      | (clear tok3; refine wpList_storeS (by rfl) _ _ (by rfl) q2 (fun _ => 0) (fun _ => 0) s 0 (by rfl) (by rfl) hs2 ?_; intro W3 hb3 hs3; have hb3' := bw_bx hb2' hb3 (Nat.le_trans hb1.size hq2); have hs13 := hs12.keepx hb3 hne; have d3 := H0.out W3 hb3'; have tok5 : Hid (g = g) := rfl)
      | (clear tok5; refine wpList_loadS (by rfl) _ (by rfl) lb _ S.n s S.last (by rfl) (HR.out W3 hb3') hs ?_; have tok6 : Hid (g = g) := rfl)
      | (clear tok6; refine wpList_storeS (by rfl) _ _ (by rfl) q1 S.last (fun _ => 0) s 0 (by rfl) (by rfl) hs13 ?_; intro W4 hb4 hs4; have hb4' := bw_bx hb3' hb4 hq1)
      | go_in)
    refine bodyPost_ret (results_cell_row rfl _ W4 q1 _ (secV S.last s) _ _ (by rfl) hs4 Try.underlying77 rfl (sizeS _ _)) rfl ?_
    exact ⟨rfl, hb4'⟩
  · have hrd := read_yes hi
    rw [hi, if_pos rfl] at HL
    rw [hrd]
    clear hrd h
    go_enter Try.func42, Try.ntmps42
    go_wp2_with (first
      | (clear tok1; refine wpList_allocS (by rfl) (by rfl) ?_; intro W1 q1 hq1 hb1 hs1; have d1 := H1.out W1 hb1; have l1 := HL.out W1 hb1; have tok2 : Hid (g = g) := rfl)
      | (clear tok2; refine wpList_allocS (by rfl) (by rfl) ?_; intro W2 q2 hq2 hb2 hs2; have hb2' := hb1.trans hb2; have hs12 := hs1.keep hb2; have hne := Nat.ne_of_lt (Nat.lt_of_lt_of_le hs1.lt hq2); have tok3 : Hid (g = g) := rfl)
      | (clear tok3; refine wpList_storeS (by rfl) _ _ (by rfl) q2 S.wait (fun _ => 0) s 0 (by rfl) (by rfl) hs2 ?_; intro W3 hb3 hs3; have hb3' := bw_bx hb2' hb3 (Nat.le_trans hb1.size hq2); have hs13 := hs12.keepx hb3 hne; have tok5 : Hid (g = g) := rfl)
      | (clear tok5; refine wpList_loadB (by rfl) _ (by rfl) q2 s S.wait (by rfl) hs3 ?_; have tok6 : Hid (g = g) := rfl)
      | (clear tok6; refine wpList_storeS (by rfl) _ _ (by rfl) q1 S.wait (fun _ => 0) s 0 (by rfl) (by rfl) hs13 ?_; intro W4 hb4 hs4; have hb4' := bw_bx hb3' hb4 hq1)
      | go_in)
    refine bodyPost_ret (results_cell_row rfl _ W4 q1 _ (secV S.wait s) _ _ (by rfl) hs4 Try.underlying77 rfl (sizeS _ _)) rfl ?_
    exact ⟨rfl, hb4'⟩
/-- the sectors of a new disk -/
theorem made_secs (n : Nat) (h : n ≤ 65536) : ∃ M : Array Value, M.size = 64 * n ∧ (∀ c, c < 64 * n → M[c]? = some (.int .u8 0)) ∧
    ∀ w, (Instr.makeSlice 60 (.int .i64 (n : Int)) (.int .i64 (n : Int))).run Try.prog w = .ok (.slice (some ⟨w.heap.size, 0, none⟩) n n) (w.alloc (.cells M 77)) := by
  obtain ⟨i0, hi0, hz0, hz1, hz2⟩ := info_parts infoS
  have hc : (Value.agg (secV (fun _ => 0) 0)).cells = secV (fun _ => 0) 0 := rfl
  refine ⟨madeCells (secV (fun _ => 0) 0) (n * 64), by simp [madeCells]; omega, fun c hcn => ?_, fun w => ?_⟩
  · have hlt : c < n * 64 := by omega
    have h1 := secV_at (fun _ => 0) 0 (c := c % 64) (by omega)
    unfold madeCells
    rw [secV_size]
    simp only [Array.getElem?_map, Array.getElem?_range, if_pos hlt, Option.map_some]
    rw [getElem!_def, h1]
  · have hr := run_make (P := Try.prog) w 60 77 i0 _ Try.underlying60 hi0 hz0 .i64 .i64 (n : Int) (n : Int) (by omega) (by omega) (by rw [hz2]; omega) (by omega)
    rw [hz1, hc, Int.toNat_natCast] at hr
    exact hr
/-- a new disk -/
def Dsk.new (n : Nat) : Dsk := ⟨n, fun _ => 0, fun _ => false, fun _ => 0, -1, false⟩
set_option maxRecDepth 100000 in
theorem new_ok (n : Nat) (h0 : 1 ≤ n) (h1 : n ≤ 65536) (w : World) :
    Calls Try.prog 10 #[.int .i64 (n : Int)] w fun e w' => ∃ g lb gm, e = .returned (.tuple #[.pointer (some ⟨g, 0, none⟩), .int .i64 0]) ∧ DiskAt w' g lb gm (Dsk.new n) ∧ (∀ b, dIn g lb gm b → w.heap.size ≤ b) ∧ Bw w w' := by
  obtain ⟨M, hM, hM0, hmk⟩ := made_secs n h1
  have HM : Hid (∀ c, c < 64 * n → M[c]? = some (.int .u8 0)) := hM0
  clear hM0
  have hmm : ∀ u : World, (Instr.makeMap 61 none).run Try.prog u = .ok (.map (some u.heap.size)) (u.alloc (.map #[] 0)) := fun u => rfl
  go_enter Try.func10, Try.ntmps10
  go_wp2
  go_ret2
  refine ⟨_, w.heap.size, w.heap.size + 1, rfl, ⟨heap3_new _ _ _ _, ⟨M, heap3_old _ _ _ _, hM, HM.out⟩, ?_, ?_⟩, ?_, ?_⟩
  · have hm := map_new14 (w.alloc (.cells M 77)) n (fun _ => 0)
    rw [size_alloc] at hm
    refine hm.keep ?_
    exact Below.alloc (Bw.refl _) (Nat.le_refl _) _
  · exact ⟨h0, h1, fun _ => ⟨Int.le_refl 0, show (0 : Int) < 256 by decide⟩, fun _ => ⟨Int.le_refl 0, show (0 : Int) < 256 by decide⟩, show (-1 : Int) ≤ -1 by decide, show (-1 : Int) < 9223372036854775808 by decide⟩
  · intro b hb
    rcases hb with rfl | rfl | rfl <;> omega
  · exact Below.alloc (Below.alloc (Below.alloc (Bw.refl _) (Nat.le_refl _) _) (by rw [size_alloc]; omega) _) (by rw [size_alloc, size_alloc]; omega) _
theorem new_no (x : Int) (hx : ¬ (1 ≤ x ∧ x ≤ 65536)) (b0 : -9223372036854775808 ≤ x) (b1 : x < 9223372036854775808) (w : World) :
    Calls Try.prog 10 #[.int .i64 x] w fun e w' => e = .returned (.tuple #[.pointer none, .int .i64 (if x < 1 then 1 else 2)]) ∧ w' = w := by
  by_cases h1 : x < 1
  · rw [if_pos h1]
    clear hx
    go_enter Try.func10, Try.ntmps10
    go_wp2
    go_ret2
    exact ⟨rfl, rfl⟩
  · rw [if_neg h1]
    have h2 : 65536 < x := by omega
    clear hx
    go_enter Try.func10, Try.ntmps10
    go_wp2
    go_ret2
    exact ⟨rfl, rfl⟩
end Go.Proofs.Ytppknadflmjefaa

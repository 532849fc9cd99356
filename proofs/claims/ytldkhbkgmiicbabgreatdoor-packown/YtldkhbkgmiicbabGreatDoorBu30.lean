/- Texts of mine, put together. -/
import Derived.Test.YtldkhbkgmiicbabGreatDoorBu2
import Derived.Test.YtldkhbkgmiicbabGreatDoorBu29
import Derived.Test.YtldkhbkgmiicbabGreatDoorBu4
import Derived.RangeFuncFrom
import Derived.RangeFuncNested
import Derived.RangeFuncCalls
import Derived.Deep.MidRow
import Derived.RangeFuncBox

/- A range over a function whose elements lie in memory that it makes: what the iterator tells of the world at each yield (At) is handed to the round. -/
namespace Go.Proofs.YtldkhbkgmiicbabGreatDoor
open Go.RowKit Go.Deep
set_option linter.unusedVariables false

/-- an iterator that tells, at each yield, what holds of the element there -/
def SeqAt {α : Type} (F : Fence) (n : Nat) (P : Program) (g : Nat) (lb : Array Value) (encs : α → Array Value) (Kp : World → World → Prop) (At : List α → α → World → Prop) (S Sp : List α → Prop) (w : World) : Prop :=
  ∀ (l : Nat) (J Jx : List α → World → Prop) (W : World), Below w.heap.size w W → AbidesFrom W.heap.size J → AbidesFrom W.heap.size Jx →
    (∀ pre x W1, J pre W1 → At pre x W1 → YieldAt F (n - 1) P l (encs x) W1 fun e W' =>
      (e = .returned (.bool true) ∧ J (pre ++ [x]) W' ∧ Kp W1 W') ∨ (e = .returned (.bool false) ∧ Jx (pre ++ [x]) W')) →
    J [] W →
    CallsIn F n P g (#[.func (.yield l) #[] #[]] ++ lb) W fun e W' => (∃ v, e = .returned v) ∧ ((∃ xs, S xs ∧ J xs W') ∨ (∃ pre, Sp pre ∧ Jx pre W'))
theorem range_at {α : Type} {F : Fence} {n : Nat} {P : Program} {g : Operand} {ps : Array Tmp} {assign body : Code} {Q : Exit → Act → World → Prop} {a : Act} {w : World}
    (hro : F.round = none) (h1 : 1 ≤ n) {gf : Nat} {lb : Array Value} (hg : a.eval g = .func (.func gf) #[] lb) (hFg : F.fn gf) (eg : ∀ args w, (callFunc gf args).run P w = .ok (.enter gf args) w)
    {encs : α → Array Value} {Kp : World → World → Prop} {At : List α → α → World → Prop} {S Sp : List α → Prop} {w0 : World} (hseq : SeqAt F (n - 1) P gf lb encs Kp At S Sp w0)
    (hKt : ∀ {A B C : World}, Kp A B → Kp B C → Kp A C) (hKb : ∀ (W : World) (l : Nat) (o o' : Obj), w.heap.size ≤ l → W.heap[l]? = some o → o.isCells = false → o.isWalk = false → Kp W (W.putObj l o')) (hb0 : Below w0.heap.size w0 w) (hps : ∀ x, (encs x).size = ps.size)
    (hAt : ∀ pre x (W : World) (l : Nat) (o o' : Obj), w.heap.size ≤ l → W.heap[l]? = some o → o.isCells = false → At pre x W → At pre x (W.putObj l o'))
    (I : List α → World → Prop) (Ix : Code → List α → World → Prop) (hI : OwnFrom w.heap.size I) (hIx : ∀ c, OwnFrom w.heap.size (Ix c)) (h0 : I [] w) (a₁ : α → Act)
    (hassign : ∀ (l : Nat) (x : α) (W : World) (K : Act → World → Prop), K (a₁ x) W →
      assign.wpIn (F.inRound l) (n - 1 - 1) P (Exit.then K (fun _ _ _ => False)) { tmps := (ps.zip (encs x)).foldl (fun t (p, v) => t.setIfInBounds p v) a.tmps, defers := [] } W)
    (hbody : ∀ (l : Nat) (pre : List α) (x : α) (W : World), I pre W → At pre x W → body.wpIn (F.inRound l) (n - 1 - 1) P (ownPostK Kp I Ix (pre ++ [x]) W) (a₁ x) W)
    (hdone : ∀ (D : Nat) (xs : List α) (W : World), w.heap.size ≤ D → S xs → I xs W → W.heap[D]? = some (.deferred (some [])) → Q .normal { a with defers := { target := .collected D, args := #[] } :: a.defers } W)
    (hstop : ∀ (D : Nat) (c : Code) (pre : List α) (W : World), w.heap.size ≤ D → Sp pre → Ix c pre W → W.heap[D]? = some (.deferred (some [])) → c.wpIn F n P Q { a with defers := { target := .collected D, args := #[] } :: a.defers } W) :
    (Code.rangeFunc g ps assign body).wpIn F n P Q a w := by
  refine wpIn_rangeFunc ?_
  intro fn hfn
  rw [hro]
  -- the loop's own record, in each of its states; the block for deferred calls lies ahead of it
  obtain ⟨L, hL⟩ : ∃ L : LoopState → Option Code → Loop, L = fun st pe => { state := st, pending := pe, fn, tmps := a.tmps, params := ps, assign, body, defers := w.heap.size } := ⟨_, rfl⟩
  obtain ⟨V, hV⟩ : ∃ V, (w.alloc (.deferred (some []))).alloc (.loop (L .ready none)) = V := ⟨_, rfl⟩
  have sV : V.heap.size = w.heap.size + 2 := by rw [← hV]; simp
  have lV : V.heap[w.heap.size + 1]? = some (.loop (L .ready none)) := by
    have := World.alloc_heap_new (w.alloc (.deferred (some []))) (.loop (L .ready none))
    rw [World.size_alloc] at this
    rw [← hV]; exact this
  have dV : V.heap[w.heap.size]? = some (.deferred (some [])) := by
    rw [← hV]; exact (Below.heap_alloc _ _ _ (by simp)).trans (World.alloc_heap_new w _)
  have bV : Below w0.heap.size w0 V := by
    rw [← hV]; exact hb0.trans ((((Below.refl _ w).alloc (Nat.le_refl _) _).alloc (by simp) _).mono hb0.size)
  refine ⟨w.heap.size + 1, [{ target := .collected w.heap.size, args := #[] }], V, { target := .fn (.func gf) lb, args := #[.func (.yield (w.heap.size + 1)) #[] #[]] }, V, gf,
    #[.func (.yield (w.heap.size + 1)) #[] #[]] ++ lb, V, ?_, ?_, ?_, ?_, fun _ => h1, ?_⟩
  · rw [← hV, hL]; exact run_enterLoop_outer _ _ _ _ _
  · simp only [resolve, hg]
    simp [go_sem]
  · intro f' hf'; simp [Target.leads] at hf'; subst hf'; exact hFg
  · simp [invoke, go_sem, eg]
  have turn : ∀ {A : World} {row : Option Nat}, (∀ r, row = some r → V.heap.size ≤ r ∧ ∃ o : Obj, A.heap[r]? = some o ∧ o.isWalk = true) → (∀ r, row = some r → w.heap.size ≤ r ∧ ∃ o : Obj, A.heap[r]? = some o ∧ o.isCells = false) :=
    fun h r e => by obtain ⟨hB, o, ho, hw⟩ := h r e; exact ⟨by omega, o, ho, Obj.not_cells_of_walk hw⟩
  refine (hseq (w.heap.size + 1)
    (fun pre W => I pre W ∧ W.heap[w.heap.size + 1]? = some (.loop (L .ready none)) ∧ W.heap[w.heap.size]? = some (.deferred (some [])))
    (fun pre W => ∃ c, Ix c pre W ∧ W.heap[w.heap.size + 1]? = some (.loop (L .done (some c))) ∧ W.heap[w.heap.size]? = some (.deferred (some [])))
    V bV
    (fun s A B row hs hg' hr => ⟨hI s A B row hs.1 hg' (turn hr), (grownBy_keeps hg' (fun r e => (hr r e).2) hs.2.1 rfl).trans hs.2.1, (grownBy_keeps hg' (fun r e => (hr r e).2) hs.2.2 rfl).trans hs.2.2⟩)
    (fun s A B row hs hg' hr => by
      obtain ⟨c, hc, hl, hk⟩ := hs
      exact ⟨c, hIx c s A B row hc hg' (turn hr), (grownBy_keeps hg' (fun r e => (hr r e).2) hl rfl).trans hl, (grownBy_keeps hg' (fun r e => (hr r e).2) hk rfl).trans hk⟩)
    ?_ ⟨by rw [← hV]; exact hI.alloc _ (hI.alloc _ h0), lV, dV⟩).mono ?_
  · rintro pre x W ⟨hi, hl, hk⟩ hat
    have hlt : w.heap.size + 1 < W.heap.size := (Array.getElem?_eq_some_iff.1 hl).1
    have hy := run_yield (P := P) (args := encs x) hl (by rw [hL]; exact hps x)
    rw [hL] at hy
    refine ⟨fn, _, assign, body, hy, roundIn_of_wpIn hfn (hassign _ x W _ ⟨_, run_beginRound hl (by rw [hL]), ?_⟩)⟩
    obtain ⟨U, hU⟩ : ∃ U, W.putObj (w.heap.size + 1) (.loop { L .ready none with state := .busy }) = U := ⟨_, rfl⟩
    have lU : U.heap[w.heap.size + 1]? = some (.loop { L .ready none with state := .busy }) := by rw [← hU]; exact World.putObj_heap_same hlt
    have dU : U.heap[w.heap.size]? = some (.deferred (some [])) := by rw [← hU]; exact (World.putObj_heap_other (by omega)).trans hk
    have kU : Kp W U := by rw [← hU]; exact hKb _ _ _ _ (by omega) hl rfl rfl
    have iU : I pre U := by rw [← hU]; exact hI.putObj _ hi (by omega) hl rfl
    have aU : At pre x U := by rw [← hU]; exact hAt _ _ _ _ _ _ (by omega) hl rfl hat
    rw [hU]
    refine wpIn_mono (hbody _ pre x _ iU aU) ?_
    -- how the round's record is turned at its end
    have fin : ∀ (j : Option Code) (W3 : World), KeepsOthers U W3 →
        (Instr.endRound (w.heap.size + 1) j).run P W3 = .ok (.bool j.isNone) (W3.putObj (w.heap.size + 1) (.loop (L (if j.isNone then .ready else .done) j))) ∧
        W3.heap[w.heap.size + 1]? = some (.loop { L .ready none with state := .busy }) ∧
        (W3.putObj (w.heap.size + 1) (.loop (L (if j.isNone then .ready else .done) j))).heap[w.heap.size + 1]? = some (.loop (L (if j.isNone then .ready else .done) j)) ∧
        (W3.putObj (w.heap.size + 1) (.loop (L (if j.isNone then .ready else .done) j))).heap[w.heap.size]? = some (.deferred (some [])) := fun j W3 hk3 => by
      have hl3 := hk3.same _ _ lU rfl
      have hr3 := run_endRound (P := P) j hl3
      rw [hL] at hr3 ⊢
      exact ⟨hr3, by rw [hL] at hl3; exact hl3, World.putObj_heap_same (Array.getElem?_eq_some_iff.1 hl3).1, (World.putObj_heap_other (by omega)).trans (hk3.same _ _ dU rfl)⟩
    rintro e a3 W3 hp
    cases e with
    | normal =>
      obtain ⟨hk3, hkp3, hi3⟩ := hp
      obtain ⟨hr, hl3, hl4, hk4⟩ := fin none W3 hk3
      exact ⟨_, _, hr, .inl ⟨rfl, ⟨hI.putObj _ hi3 (by omega) hl3 rfl, hl4, hk4⟩, hKt (hKt kU hkp3) (hKb _ _ _ _ (by omega) hl3 rfl rfl)⟩⟩
    | ret =>
      obtain ⟨hr, hl3, hl4, hk4⟩ := fin (some .ret) W3 hp.1
      exact ⟨_, _, hr, .inr ⟨rfl, .ret, (hIx _).putObj _ hp.2 (by omega) hl3 rfl, hl4, hk4⟩⟩
    | exit id =>
      obtain ⟨hr, hl3, hl4, hk4⟩ := fin (some (.exit id)) W3 hp.1
      exact ⟨_, _, hr, .inr ⟨rfl, .exit id, (hIx _).putObj _ hp.2 (by omega) hl3 rfl, hl4, hk4⟩⟩
    | goto t =>
      obtain ⟨hr, hl3, hl4, hk4⟩ := fin (some (.goto t)) W3 hp.1
      exact ⟨_, _, hr, .inr ⟨rfl, .goto t, (hIx _).putObj _ hp.2 (by omega) hl3 rfl, hl4, hk4⟩⟩
    | panic ch => exact hp.elim
    | outgrown => exact hp.elim
  · rintro e W2 ⟨⟨v, rfl⟩, (⟨xs, hS, hi, hl, hk⟩ | ⟨pre, hSp, c, hi, hl, hk⟩)⟩
    · exact ⟨none, _, by have := run_endLoop (P := P) hl (by rw [hL]; simp); rw [hL] at this; exact this, hdone _ xs _ (Nat.le_refl _) hS (hI.putObj _ hi (by omega) hl rfl) ((World.putObj_heap_other (by omega)).trans hk)⟩
    · exact ⟨some c, _, by have := run_endLoop (P := P) hl (by rw [hL]; simp); rw [hL] at this; exact this, hstop _ c pre _ (Nat.le_refl _) hSp ((hIx c).putObj _ hi (by omega) hl rfl) ((World.putObj_heap_other (by omega)).trans hk)⟩
end Go.Proofs.YtldkhbkgmiicbabGreatDoor

/- Layer 12: the program's own iterator over a volume, as landed at 16cf8173. -/
namespace Go.Proofs.YtldkhbkgmiicbabGreatDoor
open Go.RowKit Go.Deep Go.Shelf
set_option linter.unusedVariables false
set_option linter.unusedSimpArgs false
attribute [local go_sem] Oper.semAt_some

/-- the k-th 512 bytes of a volume -/
def Pk.vblk (R : Pk.B) (k : Nat) : Pk.B := ((R ++ List.replicate 1024 0).drop (512 * k)).take 512
theorem Pk.vblk_len {R : Pk.B} {k : Nat} (h0 : R.length % 512 = 0) (hk : k < R.length / 512 + 2) : (Pk.vblk R k).length = 512 := by
  unfold Pk.vblk
  rw [List.length_take, List.length_drop, List.length_append, List.length_replicate]; omega
theorem Pk.vblk_low {R : Pk.B} {k : Nat} (h0 : R.length % 512 = 0) (hk : k < R.length / 512) : Pk.vblk R k = (R.drop (512 * k)).take 512 := by
  unfold Pk.vblk
  rw [List.drop_append_of_le_length (by omega), List.take_append_of_le_length (by rw [List.length_drop]; omega)]
theorem Pk.vblk_high {R : Pk.B} {k : Nat} (h0 : R.length % 512 = 0) (hk : k < 2) : Pk.vblk R (R.length / 512 + k) = Hd.zeros := by
  unfold Pk.vblk Hd.zeros
  rw [List.drop_append, List.drop_of_length_le (by omega), List.nil_append, List.drop_replicate, List.take_replicate]
  congr 1
  omega
/-- what the iterator goes by: the variable that it holds, the roll, its bytes -/
structure VolAt (W : World) (gb g base : Nat) (v : Value) (R : Pk.B) : Prop where
  box : W.heap[gb]? = some (.cells #[.pointer (some ⟨g, 0, none⟩)] 63 (0, 0))
  roll : RollAt W g v R
  own : RollOwn W base v R
def Keep3 (gb g : Nat) (v : Value) (W W' : World) : Prop := W.heap.size ≤ W'.heap.size ∧ W'.heap[gb]? = W.heap[gb]? ∧ W'.heap[g]? = W.heap[g]? ∧ ∀ k, v.ownBlock = some k → W'.heap[k]? = W.heap[k]?
theorem Keep3.trans {gb g : Nat} {v : Value} {A B C : World} (h : Keep3 gb g v A B) (k : Keep3 gb g v B C) : Keep3 gb g v A C := ⟨Nat.le_trans h.1 k.1, k.2.1.trans h.2.1, k.2.2.1.trans h.2.2.1, fun x hx => (k.2.2.2 x hx).trans (h.2.2.2 x hx)⟩
theorem VolAt.keep3 {W W' : World} {gb g base : Nat} {v : Value} {R : Pk.B} (h : VolAt W gb g base v R) (k : Keep3 gb g v W W') : VolAt W' gb g base v R := by
  refine ⟨k.2.1.trans h.box, k.2.2.1.trans h.roll, h.own.1, h.own.2.1, ?_⟩
  rcases h.own.2.2 with e | ⟨q, cap, cur, rfl, h1, h2, h3⟩
  · exact .inl e
  · exact .inr ⟨q, cap, cur, rfl, h1, (k.2.2.2 q rfl).trans h2, h3⟩
theorem VolAt.keep {W W' : World} {gb g base : Nat} {v : Value} {R : Pk.B} (h : VolAt W gb g base v R) (k : Bw W W') : VolAt W' gb g base v R :=
  ⟨(k.block gb (Array.getElem?_eq_some_iff.1 h.box).1).trans h.box, h.roll.keep k, h.own.1, own_keep h.own.2 k⟩
theorem grown_alloc12 (w : World) (o : Obj) : w.grownBy (w.alloc o) none := World.grownBy_alloc w o none
/-- a block of a roll, where it stands -/
theorem own_range {w : World} {base q cap m : Nat} {R : Pk.B} (h : RollOwn w base (.slice (some ⟨q, 0, none⟩) m cap) R) {k : Nat} (hk : k < R.length / 512) : w.rangeAt q (k * 512) (Lib.byteCells (Pk.vblk R k)) := by
  have h0 := h.1
  rw [Pk.vblk_low h0 hk]
  rcases h.2.2 with ⟨e, _⟩ | ⟨q', cap', cur, e, _, hc, _, _, _, ht⟩
  · cases e
  · cases e
    intro j u hu
    have hj : j < 512 := by have := (List.getElem?_eq_some_iff.1 hu).1; rw [Lib.byteCells_length, List.length_take] at this; omega
    rw [cell_of_row w q _ _ _ _ hc]
    have e1 : (Lib.byteCells R)[k * 512 + j]? = some u := by
      rw [← hu]
      unfold Lib.byteCells
      rw [List.getElem?_map, List.getElem?_map, List.getElem?_take, if_pos hj, List.getElem?_drop, Nat.mul_comm]
    rw [← ht, List.getElem?_take] at e1
    split at e1
    · rw [← Array.getElem?_toList]; exact e1
    · cases e1
theorem wpListIn_load_brk {F : Fence} {m : Nat} {w : World} {ops : Array Oper} {rest : List Oper} {o : Oper} {a : Act} {Q : Exit → Act → World → Prop} (hgd : o.guard = none) (x : Operand) (ho : o.op = .load 89 x)
    (b off : Nat) (hx : a.eval x = .pointer (some ⟨b, off, none⟩)) (l : Hd.B) (hl : l.length = 512) (hc : w.rangeAt b off (Lib.byteCells l)) (h : wpListIn F m Tryz.prog ops Q rest (a.put o.dst (.agg (Hd.arr l))) w) : wpListIn F m Tryz.prog ops Q (o :: rest) a w := by
  refine wpListIn_plain hgd fun K hK => ?_
  have hr := run_loadAt_mid (P := Tryz.prog) w b off 89 (Lib.byteCells l) _ hc Tryz.underlying89 rfl (by have := info_brk hl; rw [Hd.arr_size] at this; rw [Lib.byteCells_length]; exact this)
  unfold Oper.wpIn
  refine ⟨?_, ?_⟩
  · simp [Oper.about, ho]
  · rw [Oper.semAt_plain F _ _ (by rw [ho]; intro c hc'; cases hc')]
    simp only [execOp, ho, hx, Sem.run_bind, hr, Result.andThen_ok]
    exact hK _ _ h
theorem wpListIn_store_brk {F : Fence} {m : Nat} {w : World} {ops : Array Oper} {rest : List Oper} {o : Oper} {a : Act} {Q : Exit → Act → World → Prop} (hgd : o.guard = none) (x y : Operand) (ho : o.op = .store 89 x y)
    (Z : Array Value) (hZ : Z.size = 512) (l : Hd.B) (hl : l.length = 512) (hx : a.eval x = .pointer (some ⟨w.heap.size, 0, none⟩)) (hy : a.eval y = .agg (Hd.arr l)) (h : wpListIn F m Tryz.prog ops Q rest (a.put o.dst undef) (w.alloc (.cells (Hd.arr l) 89))) : wpListIn F m Tryz.prog ops Q (o :: rest) a (w.alloc (.cells Z 89)) := by
  refine wpListIn_plain hgd fun K hK => ?_
  have hr := run_storeVar_row (P := Tryz.prog) (w.alloc (.cells Z 89)) w.heap.size 89 89 Z (Hd.arr l) (heap_alloc_new w _) (info_brk hl) (by rw [hZ, Hd.arr_size, hl]) (Hd.arr_one l)
  rw [setRow_alloc_new] at hr
  unfold Oper.wpIn
  refine ⟨?_, ?_⟩
  · simp [Oper.about, ho]
  · rw [Oper.semAt_plain F _ _ (by rw [ho]; intro c hc'; cases hc')]
    simp only [execOp, ho, hx, hy, Instr.storeAt, Instr.sureAddr, Sem.run_bind, Sem.run_pure, Result.andThen_ok, hr]
    exact hK _ _ h
set_option maxRecDepth 100000 in
set_option maxHeartbeats 4000000 in
theorem vol1_in (n : Nat) (hn : 3 ≤ n) (l gb g base n0 : Nat) (v : Value) (R : Pk.B) (hR : R.length ≤ 131072) (J Jx : List Nat → World → Prop)
    (hJa : ∀ pre W W', J pre W → W.grownBy W' none → J pre W')
    (hY : ∀ (pre : List Nat) (x : Nat) W1, J pre W1 → (n0 ≤ x ∧ BrkAt W1 x (Pk.vblk R pre.length) ∧ pre.length < R.length / 512 + 2) → YieldAt Fence.wide (n - 1) Tryz.prog l #[.slice (some ⟨x, 0, none⟩) 512 512] W1 fun e W' =>
      (e = .returned (.bool true) ∧ J (pre ++ [x]) W' ∧ Keep3 gb g v W1 W') ∨ (e = .returned (.bool false) ∧ Jx (pre ++ [x]) W'))
    (W : World) (hn0 : n0 ≤ W.heap.size) (hV : VolAt W gb g base v R) (h0 : J [] W) :
    CallsIn Fence.wide n Tryz.prog 39 #[.func (.yield l) #[] #[], .pointer (some ⟨gb, 0, none⟩)] W fun e W' => (∃ v, e = .returned v) ∧
      ((∃ xs : List Nat, xs.length = R.length / 512 + 2 ∧ J xs W') ∨ (∃ pre : List Nat, pre.length ≤ R.length / 512 + 2 ∧ Jx pre W')) := by
  have h1 : 1 ≤ n := by omega
  have hz := zero_brk
  obtain ⟨Z, hZ⟩ : ∃ Z, Hid (Z = Hd.arr Hd.zeros) := ⟨_, rfl⟩
  rw [← hZ.out] at hz
  have HZs : Hid (Z.size = 512) := by rw [hZ.out, Hd.arr_size]; exact zeros_len
  have HM : Hid (R.length % 512 = 0) := hV.own.1
  obtain ⟨nb, hnb⟩ : ∃ nb, Hid (R.length / 512 = nb) := ⟨_, rfl⟩
  have hnbl : nb ≤ 256 := by rw [← hnb.out]; omega
  rw [hnb.out] at hY ⊢
  obtain ⟨Av, cv, hve⟩ := own_slice hV.own.2
  rw [hnb.out] at hve
  subst hve
  have cb := cell_of_row W gb 0 _ _ _ hV.box
  have cr := hV.roll.c0
  refine callsIn_of_wp Tryz.func39 rfl trivial ?_ rfl
  simp only [Tryz.ntmps39, List.size_toArray, List.length_cons, List.length_nil, Nat.reduceAdd, Nat.reduceSub, Array.replicate_succ, Array.replicate_zero, List.push_toArray, List.append_toArray, List.nil_append, List.cons_append]
  gi_wp2
  gi_loopw [11] (fun i wr => ∃ (k : Nat) (pre : List Nat), k ≤ nb ∧ i = .int .i64 (k : Int) ∧ Hid (pre.length = k) ∧ VolAt wr gb g base (.slice Av nb cv) R ∧ n0 ≤ wr.heap.size ∧ J pre wr) (fun i _ => nb - (intOf i).toNat)
  case atStart => exact ⟨0, [], Nat.zero_le _, rfl, rfl, hV, hn0, h0⟩
  case round =>
    obtain ⟨k, pre, hk, rfl, hpre, hVr, hn0r, hJ⟩ := hrel
    have k0 : (0 : Int) ≤ (k : Int) := Int.natCast_nonneg _
    have cb := cell_of_row wr gb 0 _ _ _ hVr.box
    have cr := hVr.roll.c0
    by_cases hlt : k < nb
    · have i1 : (k : Int) < (nb : Int) := by omega
      obtain ⟨q, rfl⟩ : ∃ q, Av = some ⟨q, 0, none⟩ := by
        rcases hVr.own.2.2 with ⟨e, _⟩ | ⟨q, cap, cur, e, _⟩
        · cases e; omega
        · cases e; exact ⟨q, rfl⟩
      have hrg := own_range hVr.own (k := k) (by rw [hnb.out]; exact hlt)
      obtain ⟨B, hB⟩ : ∃ B, Hid (Pk.vblk R k = B) := ⟨_, rfl⟩
      have HBl : Hid (B.length = 512) := by rw [← hB.out]; exact Pk.vblk_len HM.out (by rw [hnb.out]; omega)
      rw [hB.out] at hrg
      gi_wp2_with (first
        | (refine wpListIn_load_brk rfl _ rfl q (k * 512) rfl B HBl.out hrg ?_)
        | (refine wpListIn_store_brk rfl _ _ rfl Z HZs.out B HBl.out rfl rfl ?_; obtain ⟨w2, hw2⟩ : ∃ V, V = wr.alloc (.cells (Hd.arr B) 89) := ⟨_, rfl⟩; have hb2 : Bw wr w2 := (by rw [hw2]; exact bw_alloc7 (Bw.refl _) _); have hA2 : BrkAt w2 wr.heap.size B := (by rw [hw2]; exact brk_new _ _); have hJ2 : J pre w2 := (by rw [hw2]; exact hJa _ _ _ hJ (grown_alloc12 _ _)); rw [← hw2]; clear hw2; obtain ⟨fn, tmps, assign, body, hy, hRd⟩ := hY pre wr.heap.size w2 hJ2 ⟨hn0r, by rw [hpre.out, hB.out]; exact hA2, by rw [hpre.out]; omega⟩)
        | gi_in)
      refine hRd.mono ?_
      rintro e W3 (⟨rfl, hJ3, hk3⟩ | ⟨rfl, hJx3⟩)
      · have hV3 := (hVr.keep hb2).keep3 hk3
        have hn3 : n0 ≤ W3.heap.size := Nat.le_trans hn0r (Nat.le_trans hb2.size hk3.1)
        gi_wp2
        go_roundw
        case rel => exact ⟨k + 1, pre ++ [wr.heap.size], by omega, by go_num, by show _ = _; rw [List.length_append, hpre.out]; rfl, hV3, hn3, hJ3⟩
        case measure => simp [intOf]; omega
      · gi_wp2
        refine bodyPost_ret (results_none rfl _ _ _) rfl ?_
        exact ⟨⟨_, rfl⟩, .inr ⟨_, by rw [List.length_append, hpre.out]; show k + 1 ≤ _; omega, hJx3⟩⟩
    · have i1 : ¬ (k : Int) < (nb : Int) := by omega
      obtain rfl : k = nb := by omega
      rename World => wo
      gi_wp2
      gi_loopw [26] (fun i wr => ∃ (j : Nat) (pre : List Nat), j ≤ 2 ∧ i = .int .i64 (j : Int) ∧ Hid (pre.length = k + j) ∧ VolAt wr gb g base (.slice Av k cv) R ∧ n0 ≤ wr.heap.size ∧ J pre wr) (fun i _ => 2 - (intOf i).toNat)
      case atStart => exact ⟨0, pre, Nat.zero_le _, rfl, hpre, hVr, hn0r, hJ⟩
      case round =>
        obtain ⟨j, pre2, hj, rfl, hpre2, hVr2, hn0r2, hJ2⟩ := hrel
        have j0 : (0 : Int) ≤ (j : Int) := Int.natCast_nonneg _
        by_cases hlt2 : j < 2
        · have i2 : (j : Int) < 2 := by omega
          have hA2 : BrkAt (wr.alloc (.cells Z 89)) wr.heap.size (Pk.vblk R pre2.length) := by rw [hpre2.out, ← hnb.out, Pk.vblk_high HM.out hlt2, hZ.out]; exact brk_new _ _
          have hb2 : Bw wr (wr.alloc (.cells Z 89)) := bw_alloc7 (Bw.refl _) _
          obtain ⟨fn, tmps, assign, body, hy, hRd⟩ := hY pre2 wr.heap.size (wr.alloc (.cells Z 89)) (hJa _ _ _ hJ2 (grown_alloc12 _ _)) ⟨hn0r2, hA2, by rw [hpre2.out]; omega⟩
          gi_wp2
          refine hRd.mono ?_
          rintro e W3 (⟨rfl, hJ3, hk3⟩ | ⟨rfl, hJx3⟩)
          · have hV3 := (hVr2.keep hb2).keep3 hk3
            have hn3 : n0 ≤ W3.heap.size := Nat.le_trans hn0r2 (Nat.le_trans hb2.size hk3.1)
            gi_wp2
            go_roundw
            case rel => exact ⟨j + 1, pre2 ++ [wr.heap.size], by omega, by go_num, by show _ = _; rw [List.length_append, hpre2.out]; rfl, hV3, hn3, hJ3⟩
            case measure => simp [intOf]; omega
          · gi_wp2
            refine bodyPost_ret (results_none rfl _ _ _) rfl ?_
            exact ⟨⟨_, rfl⟩, .inr ⟨_, by rw [List.length_append, hpre2.out]; show k + j + 1 ≤ _; omega, hJx3⟩⟩
        · have i2 : ¬ (j : Int) < 2 := by omega
          obtain rfl : j = 2 := by omega
          gi_wp2
          go_end0
          exact ⟨⟨_, rfl⟩, .inl ⟨pre2, hpre2.out, hJ2⟩⟩
/-- the iterator in the form of the range law -/
theorem vol_seq (n : Nat) (hn : 3 ≤ n) (gb g base : Nat) (v : Value) (R : Pk.B) (hR : R.length ≤ 131072) (w : World) (hV : VolAt w gb g base v R) :
    SeqAt Fence.wide n Tryz.prog 39 #[.pointer (some ⟨gb, 0, none⟩)] (fun x : Nat => #[.slice (some ⟨x, 0, none⟩) 512 512]) (Keep3 gb g v) (fun (pre : List Nat) (x : Nat) W => w.heap.size ≤ x ∧ BrkAt W x (Pk.vblk R pre.length) ∧ pre.length < R.length / 512 + 2)
      (fun xs => xs.length = R.length / 512 + 2) (fun pre => pre.length ≤ R.length / 512 + 2) w :=
  fun l J Jx W hW hJ hJx hY h0 => vol1_in n hn l gb g base w.heap.size v R hR J Jx (fun pre A B h k => hJ pre A B none h k (fun r e => by cases e)) hY W hW.size (hV.keep hW) h0
theorem volume_any (g : Nat) (w : World) : Calls Tryz.prog 28 #[.pointer (some ⟨g, 0, none⟩)] w fun e w' =>
    e = .returned (.func (.func 39) #[] #[.pointer (some ⟨w.heap.size, 0, none⟩)]) ∧ w' = w.alloc (.cells #[.pointer (some ⟨g, 0, none⟩)] 63) := by
  go_enter Tryz.func28, Tryz.ntmps28
  go_wp2
  go_ret
  exact ⟨rfl, rfl⟩
end Go.Proofs.YtldkhbkgmiicbabGreatDoor

/- Layer 12: the program's own bytes, Write and Size, as landed at 16cf8173. -/
namespace Go.Proofs.YtldkhbkgmiicbabGreatDoor
open Go.RowKit Go.Deep Go.Shelf
set_option linter.unusedVariables false
set_option linter.unusedSimpArgs false
attribute [local go_sem] Oper.semAt_some

/-- a row in a variable's box, appended onto and put back -/
theorem box_put {W w1 : World} {n₀ B : Nat} {t e : TypeId} {size : Nat} {v v' : Value} {k m : Nat} {xs ys : List Value} (hv : Boxed W B t v) (hte : t ≠ e) (hrow : W.ownsRow n₀ e size v k xs) (hn₀ : n₀ ≤ W.heap.size) (hB : n₀ ≤ B) (hown : w1.ownsRow n₀ e size v' m ys) (hg : W.grownBy w1 v.ownBlock) :
    Boxed w1 B t v ∧ Boxed (w1.setCell ⟨B, 0, none⟩ v') B t v' ∧ (w1.setCell ⟨B, 0, none⟩ v').ownsRow n₀ e size v' m ys ∧ KeepsOthers W (w1.setCell ⟨B, 0, none⟩ v') ∧ Below n₀ W (w1.setCell ⟨B, 0, none⟩ v') := by
  have h1 : Boxed w1 B t v := hv.kept hg (hv.not_row hte hrow)
  have hrb : ∀ j, v.ownBlock = some j → n₀ ≤ j := fun j ej => (World.ownsRow.lt hrow j ej).1
  refine ⟨h1, h1.set v', hown.kept (grownBy_setCell' w1 B v') (.inr (h1.not_row hte hown).symm), (KeepsOthers.of_grownBy hg fun j o ej hj => ?_).trans (KeepsOthers.setCell _ _ _), ((Below.refl n₀ W).grown hg hn₀ fun j ej => hrb j ej).setCell (p := ⟨B, 0, none⟩) hB v'⟩
  rcases hrow.2 with ⟨e1, _⟩ | ⟨g, cap, cur, e1, _, hgb, _⟩
  · rw [e1] at ej; cases ej
  · rw [e1] at ej
    cases ej
    rw [hgb] at hj; cases hj; rfl
theorem boxed_from {β : Type} (B g : Nat) (t : TypeId) (v : Value) : OwnFrom B (fun (_ : β) W => Boxed W g t v) := fun s A A' row hs hg hr => hs.kept hg (fun e => by
  obtain ⟨_, o, ho, hc⟩ := hr g e.symm
  rw [show A.heap[g]? = _ from hs] at ho
  cases ho; cases hc)
theorem Pk.vol_take {R : Pk.B} {k : Nat} (h0 : R.length % 512 = 0) (hk : k < R.length / 512 + 2) : (R ++ List.replicate 1024 0).take (512 * k) ++ Pk.vblk R k = (R ++ List.replicate 1024 0).take (512 * (k + 1)) := by
  unfold Pk.vblk
  rw [Nat.mul_add, Nat.mul_one, List.take_add]
set_option maxRecDepth 100000 in
set_option maxHeartbeats 4000000 in
theorem bytes_in (g : Nat) (v : Value) (R : Pk.B) (hR : R.length + 1024 ≤ 131072) (w : World) (ha : RollAt w g v R) (base0 : Nat) (ho : RollOwn w base0 v R) :
    CallsIn Fence.wide 10 Tryz.prog 20 #[.pointer (some ⟨g, 0, none⟩)] w fun e w' => (∃ u, e = .returned u ∧ w'.ownsRow w.heap.size 5 1 u (R.length + 1024) (Lib.byteCells (R ++ List.replicate 1024 0))) ∧ Bw w w' := by
  obtain ⟨nR, hnR⟩ : ∃ n, Hid (R.length = n) := ⟨_, rfl⟩
  have HM : Hid (R.length % 512 = 0) := ho.1
  rw [hnR.out] at hR ⊢
  obtain ⟨V, hVe⟩ : ∃ V : Pk.B, Hid (R ++ List.replicate 1024 0 = V) := ⟨_, show R ++ List.replicate 1024 0 = _ from rfl⟩
  rw [hVe.out]
  obtain ⟨M, hMs, hmk⟩ := made_none (nR + 1024) (by omega)
  have hmk' : ∀ w, (Instr.makeSlice 24 (.int .i64 0) (.int .i64 ((nR : Int) + 1024))).run Tryz.prog w = .ok (.slice (some ⟨w.heap.size, 0, none⟩) 0 (nR + 1024)) (w.alloc (.cells M 5)) := fun w => by have := hmk w; rw [show (((nR + 1024 : Nat)) : Int) = (nR : Int) + 1024 by omega] at this; exact this
  have c1 := ha.c1
  rw [hnR.out] at c1
  have hgl := ha.lt
  have hvl : ∀ k, v.ownBlock = some k → k < w.heap.size := fun k hk => (World.ownsRow.lt ho.2 k hk).2
  refine callsIn_of_wp_marks Tryz.func20 rfl trivial ?_ rfl
  simp only [Tryz.ntmps20, List.size_toArray, List.length_cons, List.length_nil, Nat.reduceAdd, Nat.reduceSub, Array.replicate_succ, Array.replicate_zero, List.push_toArray, List.append_toArray, List.nil_append, List.cons_append]
  gi_wp2_with (first
    | (refine ⟨trivial, ?_⟩; gi_at_call 28; refine (callsIn_wide.2 (volume_any g _)).mono ?_; rintro e w2 ⟨rfl, hw2⟩; have HW2 : Hid (w2 = _) := hw2; clear hw2))
  have hw2 := HW2.out
  have s2 : w2.heap.size = w.heap.size + 3 := by rw [hw2]; simp
  have hb2 : Bw w w2 := by rw [hw2]; exact bw_alloc7 (bw_alloc7 (bw_alloc7 (Bw.refl _) _) _) _
  have hB2 : Boxed w2 (w.heap.size + 1) 24 (.slice (some ⟨w.heap.size, 0, none⟩) 0 (nR + 1024)) := by
    have := (Boxed.new (w.alloc (.cells M 5)) 24 (.slice (some ⟨w.heap.size, 0, none⟩) 0 (nR + 1024))).alloc (.cells #[.pointer (some ⟨g, 0, none⟩)] 63)
    rw [alloc_size9] at this
    rw [hw2]; exact this
  have hO2 : w2.ownsRow w.heap.size 5 1 (.slice (some ⟨w.heap.size, 0, none⟩) 0 (nR + 1024)) 0 [] := by
    rw [hw2]; exact ((World.ownsRow_made w M (nR + 1024) (Nat.le_refl _) (by unfold maxLen; omega) hMs).alloc _).alloc _
  have hG2 : Boxed w2 (w.heap.size + 2) 63 (.pointer (some ⟨g, 0, none⟩)) := by
    have := Boxed.new ((w.alloc (.cells M 5)).alloc (.cells #[.slice (some ⟨w.heap.size, 0, none⟩) 0 (nR + 1024)] 24)) 63 (.pointer (some ⟨g, 0, none⟩))
    rw [alloc_size9, alloc_size9] at this
    rw [hw2]; exact this
  have hV2 : VolAt w2 (w.heap.size + 2) g base0 v R := ⟨hG2, ha.keep hb2, ho.1, own_keep ho.2 hb2⟩
  have hgs : Hid (w.heap[g]? = w2.heap[g]?) := (hb2.block g hgl).symm
  clear hw2 HW2
  obtain ⟨i0, hi0, hz0, hz1, hz2⟩ := info_parts info_u8
  have HVl : Hid (V.length = nR + 1024) := by show _ = _; rw [← hVe.out, List.length_append, List.length_replicate, hnR.out]
  have HVT : Hid (∀ k, k < R.length / 512 + 2 → V.take (512 * k) ++ Pk.vblk R k = V.take (512 * (k + 1))) := fun k hk => by rw [← hVe.out]; exact Pk.vol_take HM.out hk
  have HBl : Hid (∀ k, k < R.length / 512 + 2 → (Pk.vblk R k).length = 512) := fun k hk => Pk.vblk_len HM.out hk
  clear hmk hmk' hMs ha ho
  refine' range_at rfl (by omega) (gf := 39) (lb := #[.pointer (some ⟨w.heap.size + 2, 0, none⟩)]) (by simp [Act.eval, alloc_size9]) trivial (enters_of Tryz.func39 (by kernel_rfl) rfl)
    (vol_seq 9 (by omega) (w.heap.size + 2) g base0 v R (by rw [hnR.out]; omega) w2 hV2) (fun h k => h.trans k) ?kb (Below.refl _ _) (fun _ => rfl) ?hat
    (fun (pre : List Nat) W => ((∃ u, Boxed W (w.heap.size + 1) 24 u ∧ W.ownsRow w.heap.size 5 1 u (512 * pre.length) (Lib.byteCells (V.take (512 * pre.length))) ∧ True) ∧ Below w.heap.size w W) ∧ Boxed W (w.heap.size + 2) 63 (.pointer (some ⟨g, 0, none⟩)))
    (fun c pre W => False)
    (OwnFrom.and (OwnFrom.and (Own.from (holdsRow_own w.heap.size (w.heap.size + 1) 24 5 1 (fun pre : List Nat => 512 * pre.length) (fun pre : List Nat => Lib.byteCells (V.take (512 * pre.length))) (fun _ _ => True)) _) (ownFrom_below (Nat.le_refl _) (by omega))) (boxed_from _ _ _ _))
    (fun c => fun _ _ _ _ h _ _ => h)
    ⟨⟨⟨_, hB2, hO2, trivial⟩, hb2⟩, hG2⟩
    _ ?assign ?body ?done ?stop
  case kb =>
    intro W l o o' hl hlo _ _
    have hsz : (W.putObj l o').heap.size = W.heap.size := by simp [World.putObj]
    exact ⟨by omega, World.putObj_heap_other (by omega), World.putObj_heap_other (by omega), fun k hk => World.putObj_heap_other (by have := hvl k hk; omega)⟩
  case hat =>
    intro pre x W l o o' hl hlo hoc ⟨h1, h2, h3⟩
    refine ⟨h1, (World.putObj_heap_other (fun e => ?_)).trans h2, h3⟩
    unfold BrkAt at h2
    rw [e, hlo] at h2
    cases h2
    cases hoc
  case assign =>
    intro l x W K hK
    gi_wp2
    exact hK
  case body =>
    rintro l pre x W ⟨⟨⟨u, hBu, hou, -⟩, hbw⟩, hG⟩ ⟨hx0, hxB, hlt⟩
    have hc := hBu.cell
    have hf := hBu.frozen
    have hsz := hbw.size
    have hpl : 512 * pre.length ≤ 131072 := by rw [hnR.out] at hlt; omega
    have hbl := HBl.out _ hlt
    have hvt := HVT.out _ hlt
    obtain ⟨p, hp⟩ : ∃ p, Hid (512 * pre.length = p) := ⟨_, rfl⟩
    rw [hp.out] at hpl hou hvt
    show Code.wpIn _ _ _ _ _ _ _
    gi_wp2_with (first
      | (gi_at_builtin; refine wpListIn_append_own W (by rfl) _ _ 24 (by rfl) w.heap.size 5 i0 _ 1 1 Tryz.underlying24 hi0 hz0 hz1 hz2 rfl (by decide) u p _ (by rfl) hou ⟨x, 0, none⟩ 512 512 (Lib.byteCells (Pk.vblk R pre.length)) (by rfl) (by rw [Lib.byteCells_length, hbl]) (brk_news hxB) (Lib.byteCells_one _) (by unfold maxLen; omega) (by omega) hsz ?_; intro v5 w3 ho3 hg3 _
         obtain ⟨A5, c5, rfl⟩ := own_slice ho3
         obtain ⟨hB3, hB4, ho4, hko, hbl4⟩ := box_put hBu (by decide) hou hsz (Nat.le_succ _) ho3 hg3
         have hG3 : Boxed w3 (w.heap.size + 2) 63 (.pointer (some ⟨g, 0, none⟩)) := hG.kept hg3 (hG.not_row (by decide) hou)
         have hG4 : Boxed (w3.setCell ⟨w.heap.size + 1, 0, none⟩ (.slice A5 (p + 512) c5)) (w.heap.size + 2) 63 (.pointer (some ⟨g, 0, none⟩)) := hG3.kept (grownBy_setCell' _ _ _) (by simp)
         have hc3 := hB3.cell
         have hf3 := hB3.frozen
         clear hc hf
         refine Hid.out ?_)
      | gi_in)
    refine Lib.hid ?_
    gi_wp2
    have hbw4 := hbw.trans hbl4
    refine ⟨hko, ⟨hko.size, hG4.trans hG.symm, (hbw4.block g hgl).trans (hbw.block g hgl).symm, fun k hk => (hbw4.block k (hvl k hk)).trans (hbw.block k (hvl k hk)).symm⟩, ⟨⟨_, hB4, ?_, trivial⟩, hbw4⟩, hG4⟩
    rw [List.length_append, List.length_singleton, ← hvt, show 512 * (pre.length + 1) = p + 512 by rw [← hp.out]; omega, show Lib.byteCells (V.take p ++ Pk.vblk R pre.length) = Lib.byteCells (V.take p) ++ Lib.byteCells (Pk.vblk R pre.length) by simp [Lib.byteCells]]
    exact ho4
  case done =>
    rintro D xs W hD hS ⟨⟨⟨u, hBu, hou, -⟩, hbw⟩, -⟩ hK
    have hc := hBu.cell
    rw [hS] at hou
    have e1 : 512 * (R.length / 512 + 2) = nR + 1024 := by have := HM.out; rw [hnR.out] at this ⊢; omega
    rw [e1, List.take_of_length_le (by rw [HVl.out]; exact Nat.le_refl _)] at hou
    gi_wp2
    refine ⟨by simp, .inl ⟨_, _, rfl, run_takeDeferred hK, ?_⟩⟩
    refine ⟨u, ?_, ⟨u, rfl, ownsRow_putObj hou _ hK rfl⟩, hbw.trans (belowK_b (w := w) (Nat.le_refl _) _ D _ (.deferred none) (by omega) hK rfl rfl)⟩
    simp [results, Tryz.f20, go_sem]
  case stop =>
    rintro D c pre W hD _ h
    exact h.elim
theorem bytes_any (g : Nat) (v : Value) (R : Pk.B) (hR : R.length + 1024 ≤ 131072) (w : World) (ha : RollAt w g v R) (base0 : Nat) (ho : RollOwn w base0 v R) :
    Calls Tryz.prog 20 #[.pointer (some ⟨g, 0, none⟩)] w fun e w' => (∃ u, e = .returned u ∧ w'.ownsRow w.heap.size 5 1 u (R.length + 1024) (Lib.byteCells (R ++ List.replicate 1024 0))) ∧ Bw w w' :=
  callsIn_wide.1 (bytes_in g v R hR w ha base0 ho)
end Go.Proofs.YtldkhbkgmiicbabGreatDoor

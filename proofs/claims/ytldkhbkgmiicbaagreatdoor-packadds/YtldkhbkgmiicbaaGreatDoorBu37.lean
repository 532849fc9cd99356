/- Texts of mine, put together. -/
import Derived.Test.YtldkhbkgmiicbaaGreatDoorBu2
import Derived.Test.YtldkhbkgmiicbaaGreatDoorBu36
import Derived.Test.YtldkhbkgmiicbaaGreatDoorBu6
import Derived.RangeFuncFrom
import Derived.RangeFuncNested
import Derived.RangeFuncCalls
import Derived.Deep.MidRow
import Derived.RangeFuncBox

/- A range over a function whose elements lie in memory that it makes: what the iterator tells of the world at each yield (At) is handed to the round. -/
namespace Go.Proofs.YtldkhbkgmiicbaaGreatDoor
open Go.RowKit Go.Deep
set_option linter.unusedVariables false

/-- an iterator that tells, at each yield, what holds of the element there -/
def SeqAt {α : Type} (F : Fence) (n : Nat) (P : Program) (g : Nat) (lb : Array Value) (encs : α → Array Value) (Kp : World → World → Prop) (At : List α → α → World → Prop) (S Sp : List α → Prop) (w : World) : Prop :=
  ∀ (l : Nat) (J Jx : List α → World → Prop) (W : World), Below w.heap.size w W → AbidesFrom W.heap.size J → AbidesFrom W.heap.size Jx →
    (∀ pre x W1, J pre W1 → At pre x W1 → YieldAt F (n - 1) P l (encs x) W1 fun e W' =>
      (e = .returned (.bool true) ∧ J (pre ++ [x]) W' ∧ Kp W1 W') ∨ (e = .returned (.bool false) ∧ Jx (pre ++ [x]) W')) →
    J [] W →
    CallsIn F n P g (#[.func (.yield l) #[] #[]] ++ lb) W fun e W' => (∃ v, e = .returned v) ∧ ((∃ xs, S xs ∧ J xs W') ∨ (∃ pre, Sp pre ∧ Jx pre W'))
theorem range_at {α : Type} {F : Fence} {n : Nat} {P : Program} {g : Operand} {ps : Array Tmp} {assign body : Code} {Q : Exit → Act → World → Prop} {a : Act} {w : World}
    (hro : F.round = none) (h1 : 1 ≤ n) {gf : Nat} {lb : Array Value} (hg : a.eval g = .func (.func gf) #[] lb) (hFg : F.fn gf) (eg : ∀ args w, (callFunc gf args).run P w = .ok (.enter gf args) w)
    {encs : α → Array Value} {Kp : World → World → Prop} {At : List α → α → World → Prop} {S Sp : List α → Prop} {w0 : World} (hseq : SeqAt F (n - 1) P gf lb encs Kp At S Sp w0)
    (hKt : ∀ {A B C : World}, Kp A B → Kp B C → Kp A C) (hKb : ∀ (W : World) (l : Nat) (o o' : Obj), w.heap.size ≤ l → W.heap[l]? = some o → o.isCells = false → o.isWalk = false → Kp W (W.putObj l o')) (hb0 : Below w0.heap.size w0 w) (hps : ∀ x, (encs x).size = ps.size)
    (hAt : ∀ pre x (W : World) (l : Nat) (o o' : Obj), w.heap.size ≤ l → W.heap[l]? = some o → o.isCells = false → At pre x W → At pre x (W.putObj l o'))
    (I : List α → World → Prop) (Ix : Code → List α → World → Prop) (hI : OwnFrom w.heap.size I) (hIx : ∀ c, OwnFrom w.heap.size (Ix c)) (h0 : I [] w) (a₁ : α → Act)
    (hassign : ∀ (l : Nat) (x : α) (W : World) (K : Act → World → Prop), K (a₁ x) W →
      assign.wpIn (F.inRound l) (n - 1 - 1) P (Exit.then K (fun _ _ _ => False)) { tmps := (ps.zip (encs x)).foldl (fun t (p, v) => t.setIfInBounds p v) a.tmps, defers := [] } W)
    (hbody : ∀ (l : Nat) (pre : List α) (x : α) (W : World), I pre W → At pre x W → body.wpIn (F.inRound l) (n - 1 - 1) P (ownPostK Kp I Ix (pre ++ [x]) W) (a₁ x) W)
    (hdone : ∀ (D : Nat) (xs : List α) (W : World), w.heap.size ≤ D → S xs → I xs W → W.heap[D]? = some (.deferred (some [])) → Q .normal { a with defers := { target := .collected D, args := #[] } :: a.defers } W)
    (hstop : ∀ (D : Nat) (c : Code) (pre : List α) (W : World), w.heap.size ≤ D → Sp pre → Ix c pre W → W.heap[D]? = some (.deferred (some [])) → c.wpIn F n P Q { a with defers := { target := .collected D, args := #[] } :: a.defers } W) :
    (Code.rangeFunc g ps assign body).wpIn F n P Q a w := by
  refine wpIn_rangeFunc ?_
  intro fn hfn
  rw [hro]
  -- the loop's own record, in each of its states; the block for deferred calls lies ahead of it
  obtain ⟨L, hL⟩ : ∃ L : LoopState → Option Code → Loop, L = fun st pe => { state := st, pending := pe, fn, tmps := a.tmps, params := ps, assign, body, defers := w.heap.size } := ⟨_, rfl⟩
  obtain ⟨V, hV⟩ : ∃ V, (w.alloc (.deferred (some []))).alloc (.loop (L .ready none)) = V := ⟨_, rfl⟩
  have sV : V.heap.size = w.heap.size + 2 := by rw [← hV]; simp
  have lV : V.heap[w.heap.size + 1]? = some (.loop (L .ready none)) := by
    have := World.alloc_heap_new (w.alloc (.deferred (some []))) (.loop (L .ready none))
    rw [World.size_alloc] at this
    rw [← hV]; exact this
  have dV : V.heap[w.heap.size]? = some (.deferred (some [])) := by
    rw [← hV]; exact (Below.heap_alloc _ _ _ (by simp)).trans (World.alloc_heap_new w _)
  have bV : Below w0.heap.size w0 V := by
    rw [← hV]; exact hb0.trans ((((Below.refl _ w).alloc (Nat.le_refl _) _).alloc (by simp) _).mono hb0.size)
  refine ⟨w.heap.size + 1, [{ target := .collected w.heap.size, args := #[] }], V, { target := .fn (.func gf) lb, args := #[.func (.yield (w.heap.size + 1)) #[] #[]] }, V, gf,
    #[.func (.yield (w.heap.size + 1)) #[] #[]] ++ lb, V, ?_, ?_, ?_, ?_, fun _ => h1, ?_⟩
  · rw [← hV, hL]; exact run_enterLoop_outer _ _ _ _ _
  · simp only [resolve, hg]
    simp [go_sem]
  · intro f' hf'; simp [Target.leads] at hf'; subst hf'; exact hFg
  · simp [invoke, go_sem, eg]
  have turn : ∀ {A : World} {row : Option Nat}, (∀ r, row = some r → V.heap.size ≤ r ∧ ∃ o : Obj, A.heap[r]? = some o ∧ o.isWalk = true) → (∀ r, row = some r → w.heap.size ≤ r ∧ ∃ o : Obj, A.heap[r]? = some o ∧ o.isCells = false) :=
    fun h r e => by obtain ⟨hB, o, ho, hw⟩ := h r e; exact ⟨by omega, o, ho, Obj.not_cells_of_walk hw⟩
  refine (hseq (w.heap.size + 1)
    (fun pre W => I pre W ∧ W.heap[w.heap.size + 1]? = some (.loop (L .ready none)) ∧ W.heap[w.heap.size]? = some (.deferred (some [])))
    (fun pre W => ∃ c, Ix c pre W ∧ W.heap[w.heap.size + 1]? = some (.loop (L .done (some c))) ∧ W.heap[w.heap.size]? = some (.deferred (some [])))
    V bV
    (fun s A B row hs hg' hr => ⟨hI s A B row hs.1 hg' (turn hr), (grownBy_keeps hg' (fun r e => (hr r e).2) hs.2.1 rfl).trans hs.2.1, (grownBy_keeps hg' (fun r e => (hr r e).2) hs.2.2 rfl).trans hs.2.2⟩)
    (fun s A B row hs hg' hr => by
      obtain ⟨c, hc, hl, hk⟩ := hs
      exact ⟨c, hIx c s A B row hc hg' (turn hr), (grownBy_keeps hg' (fun r e => (hr r e).2) hl rfl).trans hl, (grownBy_keeps hg' (fun r e => (hr r e).2) hk rfl).trans hk⟩)
    ?_ ⟨by rw [← hV]; exact hI.alloc _ (hI.alloc _ h0), lV, dV⟩).mono ?_
  · rintro pre x W ⟨hi, hl, hk⟩ hat
    have hlt : w.heap.size + 1 < W.heap.size := (Array.getElem?_eq_some_iff.1 hl).1
    have hy := run_yield (P := P) (args := encs x) hl (by rw [hL]; exact hps x)
    rw [hL] at hy
    refine ⟨fn, _, assign, body, hy, roundIn_of_wpIn hfn (hassign _ x W _ ⟨_, run_beginRound hl (by rw [hL]), ?_⟩)⟩
    obtain ⟨U, hU⟩ : ∃ U, W.putObj (w.heap.size + 1) (.loop { L .ready none with state := .busy }) = U := ⟨_, rfl⟩
    have lU : U.heap[w.heap.size + 1]? = some (.loop { L .ready none with state := .busy }) := by rw [← hU]; exact World.putObj_heap_same hlt
    have dU : U.heap[w.heap.size]? = some (.deferred (some [])) := by rw [← hU]; exact (World.putObj_heap_other (by omega)).trans hk
    have kU : Kp W U := by rw [← hU]; exact hKb _ _ _ _ (by omega) hl rfl rfl
    have iU : I pre U := by rw [← hU]; exact hI.putObj _ hi (by omega) hl rfl
    have aU : At pre x U := by rw [← hU]; exact hAt _ _ _ _ _ _ (by omega) hl rfl hat
    rw [hU]
    refine wpIn_mono (hbody _ pre x _ iU aU) ?_
    -- how the round's record is turned at its end
    have fin : ∀ (j : Option Code) (W3 : World), KeepsOthers U W3 →
        (Instr.endRound (w.heap.size + 1) j).run P W3 = .ok (.bool j.isNone) (W3.putObj (w.heap.size + 1) (.loop (L (if j.isNone then .ready else .done) j))) ∧
        W3.heap[w.heap.size + 1]? = some (.loop { L .ready none with state := .busy }) ∧
        (W3.putObj (w.heap.size + 1) (.loop (L (if j.isNone then .ready else .done) j))).heap[w.heap.size + 1]? = some (.loop (L (if j.isNone then .ready else .done) j)) ∧
        (W3.putObj (w.heap.size + 1) (.loop (L (if j.isNone then .ready else .done) j))).heap[w.heap.size]? = some (.deferred (some [])) := fun j W3 hk3 => by
      have hl3 := hk3.same _ _ lU rfl
      have hr3 := run_endRound (P := P) j hl3
      rw [hL] at hr3 ⊢
      exact ⟨hr3, by rw [hL] at hl3; exact hl3, World.putObj_heap_same (Array.getElem?_eq_some_iff.1 hl3).1, (World.putObj_heap_other (by omega)).trans (hk3.same _ _ dU rfl)⟩
    rintro e a3 W3 hp
    cases e with
    | normal =>
      obtain ⟨hk3, hkp3, hi3⟩ := hp
      obtain ⟨hr, hl3, hl4, hk4⟩ := fin none W3 hk3
      exact ⟨_, _, hr, .inl ⟨rfl, ⟨hI.putObj _ hi3 (by omega) hl3 rfl, hl4, hk4⟩, hKt (hKt kU hkp3) (hKb _ _ _ _ (by omega) hl3 rfl rfl)⟩⟩
    | ret =>
      obtain ⟨hr, hl3, hl4, hk4⟩ := fin (some .ret) W3 hp.1
      exact ⟨_, _, hr, .inr ⟨rfl, .ret, (hIx _).putObj _ hp.2 (by omega) hl3 rfl, hl4, hk4⟩⟩
    | exit id =>
      obtain ⟨hr, hl3, hl4, hk4⟩ := fin (some (.exit id)) W3 hp.1
      exact ⟨_, _, hr, .inr ⟨rfl, .exit id, (hIx _).putObj _ hp.2 (by omega) hl3 rfl, hl4, hk4⟩⟩
    | goto t =>
      obtain ⟨hr, hl3, hl4, hk4⟩ := fin (some (.goto t)) W3 hp.1
      exact ⟨_, _, hr, .inr ⟨rfl, .goto t, (hIx _).putObj _ hp.2 (by omega) hl3 rfl, hl4, hk4⟩⟩
    | panic ch => exact hp.elim
    | outgrown => exact hp.elim
  · rintro e W2 ⟨⟨v, rfl⟩, (⟨xs, hS, hi, hl, hk⟩ | ⟨pre, hSp, c, hi, hl, hk⟩)⟩
    · exact ⟨none, _, by have := run_endLoop (P := P) hl (by rw [hL]; simp); rw [hL] at this; exact this, hdone _ xs _ (Nat.le_refl _) hS (hI.putObj _ hi (by omega) hl rfl) ((World.putObj_heap_other (by omega)).trans hk)⟩
    · exact ⟨some c, _, by have := run_endLoop (P := P) hl (by rw [hL]; simp); rw [hL] at this; exact this, hstop _ c pre _ (Nat.le_refl _) hSp ((hIx c).putObj _ hi (by omega) hl rfl) ((World.putObj_heap_other (by omega)).trans hk)⟩
end Go.Proofs.YtldkhbkgmiicbaaGreatDoor

/- Layer 12: the program's own iterator over a volume, as landed at 16cf8173. -/
namespace Go.Proofs.YtldkhbkgmiicbaaGreatDoor
open Go.RowKit Go.Deep Go.Shelf
set_option linter.unusedVariables false
set_option linter.unusedSimpArgs false
attribute [local go_sem] Oper.semAt_some

/-- the k-th 512 bytes of a volume -/
def Pk.vblk (R : Pk.B) (k : Nat) : Pk.B := ((R ++ List.replicate 1024 0).drop (512 * k)).take 512
theorem Pk.vblk_len {R : Pk.B} {k : Nat} (h0 : R.length % 512 = 0) (hk : k < R.length / 512 + 2) : (Pk.vblk R k).length = 512 := by
  unfold Pk.vblk
  rw [List.length_take, List.length_drop, List.length_append, List.length_replicate]; omega
theorem Pk.vblk_low {R : Pk.B} {k : Nat} (h0 : R.length % 512 = 0) (hk : k < R.length / 512) : Pk.vblk R k = (R.drop (512 * k)).take 512 := by
  unfold Pk.vblk
  rw [List.drop_append_of_le_length (by omega), List.take_append_of_le_length (by rw [List.length_drop]; omega)]
theorem Pk.vblk_high {R : Pk.B} {k : Nat} (h0 : R.length % 512 = 0) (hk : k < 2) : Pk.vblk R (R.length / 512 + k) = Hd.zeros := by
  unfold Pk.vblk Hd.zeros
  rw [List.drop_append, List.drop_of_length_le (by omega), List.nil_append, List.drop_replicate, List.take_replicate]
  congr 1
  omega
/-- what the iterator goes by: the variable that it holds, the roll, its bytes -/
structure VolAt (W : World) (gb g base : Nat) (v : Value) (R : Pk.B) : Prop where
  box : W.heap[gb]? = some (.cells #[.pointer (some ⟨g, 0, none⟩)] 91 (0, 0))
  roll : RollAt W g v R
  own : RollOwn W base v R
def Keep3 (gb g : Nat) (v : Value) (W W' : World) : Prop := W.heap.size ≤ W'.heap.size ∧ W'.heap[gb]? = W.heap[gb]? ∧ W'.heap[g]? = W.heap[g]? ∧ ∀ k, v.ownBlock = some k → W'.heap[k]? = W.heap[k]?
theorem Keep3.trans {gb g : Nat} {v : Value} {A B C : World} (h : Keep3 gb g v A B) (k : Keep3 gb g v B C) : Keep3 gb g v A C := ⟨Nat.le_trans h.1 k.1, k.2.1.trans h.2.1, k.2.2.1.trans h.2.2.1, fun x hx => (k.2.2.2 x hx).trans (h.2.2.2 x hx)⟩
theorem VolAt.keep3 {W W' : World} {gb g base : Nat} {v : Value} {R : Pk.B} (h : VolAt W gb g base v R) (k : Keep3 gb g v W W') : VolAt W' gb g base v R := by
  refine ⟨k.2.1.trans h.box, k.2.2.1.trans h.roll, h.own.1, h.own.2.1, ?_⟩
  rcases h.own.2.2 with e | ⟨q, cap, cur, rfl, h1, h2, h3⟩
  · exact .inl e
  · exact .inr ⟨q, cap, cur, rfl, h1, (k.2.2.2 q rfl).trans h2, h3⟩
theorem VolAt.keep {W W' : World} {gb g base : Nat} {v : Value} {R : Pk.B} (h : VolAt W gb g base v R) (k : Bw W W') : VolAt W' gb g base v R :=
  ⟨(k.block gb (Array.getElem?_eq_some_iff.1 h.box).1).trans h.box, h.roll.keep k, h.own.1, own_keep h.own.2 k⟩
theorem grown_alloc12 (w : World) (o : Obj) : w.grownBy (w.alloc o) none := World.grownBy_alloc w o none
/-- a block of a roll, where it stands -/
theorem own_range {w : World} {base q cap m : Nat} {R : Pk.B} (h : RollOwn w base (.slice (some ⟨q, 0, none⟩) m cap) R) {k : Nat} (hk : k < R.length / 512) : w.rangeAt q (k * 512) (Lib.byteCells (Pk.vblk R k)) := by
  have h0 := h.1
  rw [Pk.vblk_low h0 hk]
  rcases h.2.2 with ⟨e, _⟩ | ⟨q', cap', cur, e, _, hc, _, _, _, ht⟩
  · cases e
  · cases e
    intro j u hu
    have hj : j < 512 := by have := (List.getElem?_eq_some_iff.1 hu).1; rw [Lib.byteCells_length, List.length_take] at this; omega
    rw [cell_of_row w q _ _ _ _ hc]
    have e1 : (Lib.byteCells R)[k * 512 + j]? = some u := by
      rw [← hu]
      unfold Lib.byteCells
      rw [List.getElem?_map, List.getElem?_map, List.getElem?_take, if_pos hj, List.getElem?_drop, Nat.mul_comm]
    rw [← ht, List.getElem?_take] at e1
    split at e1
    · rw [← Array.getElem?_toList]; exact e1
    · cases e1
theorem wpListIn_load_brk {F : Fence} {m : Nat} {w : World} {ops : Array Oper} {rest : List Oper} {o : Oper} {a : Act} {Q : Exit → Act → World → Prop} (hgd : o.guard = none) (x : Operand) (ho : o.op = .load 104 x)
    (b off : Nat) (hx : a.eval x = .pointer (some ⟨b, off, none⟩)) (l : Hd.B) (hl : l.length = 512) (hc : w.rangeAt b off (Lib.byteCells l)) (h : wpListIn F m Tryz.prog ops Q rest (a.put o.dst (.agg (Hd.arr l))) w) : wpListIn F m Tryz.prog ops Q (o :: rest) a w := by
  refine wpListIn_plain hgd fun K hK => ?_
  have hr := run_loadAt_mid (P := Tryz.prog) w b off 104 (Lib.byteCells l) _ hc Tryz.underlying104 rfl (by have := info_brk hl; rw [Hd.arr_size] at this; rw [Lib.byteCells_length]; exact this)
  unfold Oper.wpIn
  refine ⟨?_, ?_⟩
  · simp [Oper.about, ho]
  · rw [Oper.semAt_plain F _ _ (by rw [ho]; intro c hc'; cases hc')]
    simp only [execOp, ho, hx, Sem.run_bind, hr, Result.andThen_ok]
    exact hK _ _ h
theorem wpListIn_store_brk {F : Fence} {m : Nat} {w : World} {ops : Array Oper} {rest : List Oper} {o : Oper} {a : Act} {Q : Exit → Act → World → Prop} (hgd : o.guard = none) (x y : Operand) (ho : o.op = .store 104 x y)
    (Z : Array Value) (hZ : Z.size = 512) (l : Hd.B) (hl : l.length = 512) (hx : a.eval x = .pointer (some ⟨w.heap.size, 0, none⟩)) (hy : a.eval y = .agg (Hd.arr l)) (h : wpListIn F m Tryz.prog ops Q rest (a.put o.dst undef) (w.alloc (.cells (Hd.arr l) 104))) : wpListIn F m Tryz.prog ops Q (o :: rest) a (w.alloc (.cells Z 104)) := by
  refine wpListIn_plain hgd fun K hK => ?_
  have hr := run_storeVar_row (P := Tryz.prog) (w.alloc (.cells Z 104)) w.heap.size 104 104 Z (Hd.arr l) (heap_alloc_new w _) (info_brk hl) (by rw [hZ, Hd.arr_size, hl]) (Hd.arr_one l)
  rw [setRow_alloc_new] at hr
  unfold Oper.wpIn
  refine ⟨?_, ?_⟩
  · simp [Oper.about, ho]
  · rw [Oper.semAt_plain F _ _ (by rw [ho]; intro c hc'; cases hc')]
    simp only [execOp, ho, hx, hy, Instr.storeAt, Instr.sureAddr, Sem.run_bind, Sem.run_pure, Result.andThen_ok, hr]
    exact hK _ _ h
theorem volume_any (g : Nat) (w : World) : Calls Tryz.prog 33 #[.pointer (some ⟨g, 0, none⟩)] w fun e w' =>
    e = .returned (.func (.func 56) #[] #[.pointer (some ⟨w.heap.size, 0, none⟩)]) ∧ w' = w.alloc (.cells #[.pointer (some ⟨g, 0, none⟩)] 91) := by
  go_enter Tryz.func33, Tryz.ntmps33
  go_wp2
  go_ret
  exact ⟨rfl, rfl⟩
end Go.Proofs.YtldkhbkgmiicbaaGreatDoor

/- Layer 12: the program's own bytes, Write and Size, as landed at 16cf8173. -/
namespace Go.Proofs.YtldkhbkgmiicbaaGreatDoor
open Go.RowKit Go.Deep Go.Shelf
set_option linter.unusedVariables false
set_option linter.unusedSimpArgs false
attribute [local go_sem] Oper.semAt_some

/-- a row in a variable's box, appended onto and put back -/
theorem box_put {W w1 : World} {n₀ B : Nat} {t e : TypeId} {size : Nat} {v v' : Value} {k m : Nat} {xs ys : List Value} (hv : Boxed W B t v) (hte : t ≠ e) (hrow : W.ownsRow n₀ e size v k xs) (hn₀ : n₀ ≤ W.heap.size) (hB : n₀ ≤ B) (hown : w1.ownsRow n₀ e size v' m ys) (hg : W.grownBy w1 v.ownBlock) :
    Boxed w1 B t v ∧ Boxed (w1.setCell ⟨B, 0, none⟩ v') B t v' ∧ (w1.setCell ⟨B, 0, none⟩ v').ownsRow n₀ e size v' m ys ∧ KeepsOthers W (w1.setCell ⟨B, 0, none⟩ v') ∧ Below n₀ W (w1.setCell ⟨B, 0, none⟩ v') := by
  have h1 : Boxed w1 B t v := hv.kept hg (hv.not_row hte hrow)
  have hrb : ∀ j, v.ownBlock = some j → n₀ ≤ j := fun j ej => (World.ownsRow.lt hrow j ej).1
  refine ⟨h1, h1.set v', hown.kept (grownBy_setCell' w1 B v') (.inr (h1.not_row hte hown).symm), (KeepsOthers.of_grownBy hg fun j o ej hj => ?_).trans (KeepsOthers.setCell _ _ _), ((Below.refl n₀ W).grown hg hn₀ fun j ej => hrb j ej).setCell (p := ⟨B, 0, none⟩) hB v'⟩
  rcases hrow.2 with ⟨e1, _⟩ | ⟨g, cap, cur, e1, _, hgb, _⟩
  · rw [e1] at ej; cases ej
  · rw [e1] at ej
    cases ej
    rw [hgb] at hj; cases hj; rfl
theorem boxed_from {β : Type} (B g : Nat) (t : TypeId) (v : Value) : OwnFrom B (fun (_ : β) W => Boxed W g t v) := fun s A A' row hs hg hr => hs.kept hg (fun e => by
  obtain ⟨_, o, ho, hc⟩ := hr g e.symm
  rw [show A.heap[g]? = _ from hs] at ho
  cases ho; cases hc)
theorem Pk.vol_take {R : Pk.B} {k : Nat} (h0 : R.length % 512 = 0) (hk : k < R.length / 512 + 2) : (R ++ List.replicate 1024 0).take (512 * k) ++ Pk.vblk R k = (R ++ List.replicate 1024 0).take (512 * (k + 1)) := by
  unfold Pk.vblk
  rw [Nat.mul_add, Nat.mul_one, List.take_add]
end Go.Proofs.YtldkhbkgmiicbaaGreatDoor

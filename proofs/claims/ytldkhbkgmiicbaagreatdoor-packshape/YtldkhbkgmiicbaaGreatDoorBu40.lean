/- Texts of mine, put together. -/
import Derived.Test.YtldkhbkgmiicbaaGreatDoorBu38
import Derived.Test.YtldkhbkgmiicbaaGreatDoorBu39
import Derived.Test.YtldkhbkgmiicbaaGreatDoorBu2
import Derived.RangeFuncFrom
import Derived.RangeFuncNested
import Derived.RangeFuncCalls

/- Layer 12: the program's own written, as landed at 16cf8173. -/
namespace Go.Proofs.YtldkhbkgmiicbaaGreatDoor
open Go.RowKit Go.Deep
set_option linter.unusedVariables false
set_option linter.unusedSimpArgs false

theorem results_roll {P : Program} {fn : Func} {p u x : Tmp} {ty : TypeId} (h : fn.results = #[.cell p ty, .tmp u, .tmp x]) (tmps : Array Value) (w : World) (g : Nat) (t : TypeId) (cs : Array Value) (fr : Nat × Nat) (d : TypeDesc)
    (hp : tmps.getD p undef = .pointer (some ⟨g, 0, none⟩)) (hg : w.heap[g]? = some (.cells cs t fr))
    (hu : P.underlying ty = some d) (hd : (match d with | .struct _ | .array _ _ => true | _ => false) = true) (hi : (P.info? ty).map (·.size) = some cs.size) :
    (results fn tmps).run P w = .ok (.tuple #[.agg cs, tmps.getD u undef, tmps.getD x undef]) w := by
  have e : (results fn tmps).run P w = ((asAddr (tmps.getD p undef)).run P w).andThen fun a w₁ => ((loadVar ty a).run P w₁).andThen fun v w₂ => .ok (.tuple #[v, tmps.getD u undef, tmps.getD x undef]) w₂ := by
    simp only [results, h]
    simp [Sem.run_bind, Result.andThen]
  rw [e, hp]
  simp [asAddr, run_loadVar_row w g t ty cs fr d hg hu hd hi, Result.andThen]
theorem roll_own_ne {w : World} {g base k : Nat} {v u : Value} {R : Pk.B} {ys : List Value} (h1 : RollAt w g v R) (h2 : w.ownsRow base 104 512 u k ys) : u.ownBlock ≠ some g := fun e => by
  rcases h2.2 with ⟨e1, _⟩ | ⟨g', cap, cur, e1, _, hc, _⟩
  · rw [e1] at e; cases e
  · rw [e1] at e
    cases e
    unfold RollAt at h1
    rw [hc] at h1
    cases h1
def zero6 : Array Value := #[.string ⟨#[]⟩, .int .u8 0, .int .i64 0, .int .i64 0, .slice none 0 0, .string ⟨#[]⟩]
theorem zero_item12 (w : World) : (zeroValue 47).run Tryz.prog w = .ok (.agg zero6) w := by kernel_rfl
/-- what written answers -/
def WrEnds (t : List Tr.It) (base : Nat) (e : Ending) (w' : World) : Prop :=
  ((Pk.wr t).2.2 ≠ 0 ∧ e = .returned (.tuple #[.agg #[.slice none 0 0, .int .i64 0], .int .i64 ((Pk.wr t).2.1 : Int), .int .i64 (Pk.wr t).2.2])) ∨
  ((Pk.wr t).2.2 = 0 ∧ Pk.wr t = (Pk.flat t ++ List.replicate 1024 0, 0, 0) ∧ (Pk.flat t).length + 1024 ≤ 131072 ∧ ∃ A m c, e = .returned (.tuple #[.agg #[.slice A m c, .int .i64 ((Pk.flat t).length : Int)], .int .i64 0, .int .i64 0]) ∧ RollOwn w' base (.slice A m c) (Pk.flat t))
set_option maxRecDepth 100000 in
set_option maxHeartbeats 4000000 in
theorem written_any (A : Option Addr) (cap : Nat) (L : List Tr.Iv) (hn : L.length ≤ 4611686018427387904) (hcap : L.length ≤ cap) (w : World) (ha : ItsAt w A L) (hk : KTAt w) :
    Calls Tryz.prog 28 #[.slice A L.length cap] w fun e w' => WrEnds (Tr.its L) w.heap.size e w' ∧ Bw w w' := by
  obtain ⟨cA, cE, hC⟩ : ∃ a b, Hid (Tr.chkE (Tr.its L) = (a, b)) := ⟨_, _, show Tr.chkE (Tr.its L) = _ from rfl⟩
  have HCh : Hid (∀ u, Bw w u → Calls Tryz.prog 35 #[.slice A L.length cap] u fun e w' => e = .returned (.tuple #[.int .i64 (cA : Int), .int .i64 cE]) ∧ Bw u w') := fun u hu => by
    have := tcheck_any A cap L hn hcap u (ha.keep hu)
    rwa [hC.out] at this
  obtain ⟨n, hnn⟩ : ∃ n, Hid (L.length = n) := ⟨_, rfl⟩
  rw [hnn.out] at hn hcap HCh ⊢
  have HA : Hid (ItsAt w A L) := ha
  have HK : Hid (KTAt w) := hk
  have hz := zero_roll
  have hw1 : Bw w (w.alloc (.cells #[.slice none 0 0, .int .i64 0] 69)) := bw_alloc7 (Bw.refl _) _
  have hZ0 : RollAt (w.alloc (.cells #[.slice none 0 0, .int .i64 0] 69)) w.heap.size (.slice none 0 0) [] := heap_alloc_new _ _
  clear ha hk
  by_cases h0 : cE = 0
  · subst h0
    have hck := Tr.chk_zero (t := Tr.its L) (by rw [hC.out])
    have HOk : Hid (Tr.Ok (Tr.its L)) := hck.2
    have hn256 : n ≤ 256 := by rw [← hnn.out, ← Tr.its_len]; exact hck.1
    have HWr : Hid (Pk.wr (Tr.its L) = Pk.wrF [] 0 (Tr.its L)) := Pk.wr_good (by rw [hC.out])
    clear hck
    go_enter Tryz.func28, Tryz.ntmps28
    go_upto_region 4 with (go_at_call 35; refine (HCh.out _ hw1).mono ?_; rintro e w2 ⟨rfl, hw2⟩)
    have hw12 := hw1.trans hw2
    have hZ2 := hZ0.keep hw2
    obtain ⟨W, hW⟩ : ∃ V, V = w2.alloc (.cells #[.slice none 0 0, .int .i64 0] 69) := ⟨_, rfl⟩
    have hbW : Bw w2 W := by rw [hW]; exact bw_alloc7 (Bw.refl _) _
    have HR0 : Hid (Rolls w.heap.size w2.heap.size (.slice none 0 0) [] [] W W (.slice none 0 0)) := by
      refine Rolls.refl (by rw [hW]; exact heap_alloc_new _ _) ⟨rfl, World.ownsRow_nil _ _ _ _⟩
    obtain ⟨N, hN⟩ : ∃ N, Hid (w2.heap.size = N) := ⟨_, rfl⟩
    rw [hN.out] at HR0
    have HNl : Hid (w.heap.size < N) := by show _ < _; rw [← hN.out]; exact hZ2.lt
    have HZW : Hid (RollAt W w.heap.size (.slice none 0 0) []) := hZ2.keep hbW
    have hbwW : Bw w W := hw12.trans hbW
    go_upto_region 5 with fail
    rw [← hW, hN.out]
    clear hW hZ0 hZ2 hw1 hw2 hw12
    go_wp2
    go_loopw [23] (fun i wr => ∃ k : Nat, k ≤ n ∧ i = .int .i64 (k : Int) ∧ Hid (Pk.Upto (Tr.its L) k ∧ ∃ v, Rolls w.heap.size N (.slice none 0 0) [] (Pk.flat ((Tr.its L).take k)) W wr v)) (fun i _ => n - (intOf i).toNat)
    case atStart => exact ⟨0, Nat.zero_le _, rfl, Pk.upto_zero _, _, HR0.out⟩
    case round =>
      obtain ⟨k, hkn, rfl, hI⟩ := hrel
      obtain ⟨hup, v, hRo⟩ := hI.out
      have k0 : (0 : Int) ≤ (k : Int) := Int.natCast_nonneg _
      have hbw : Bw w wr := bw_of_bx hbwW hRo.bx (fun b e => e.elim (fun e => by rw [e]; exact Nat.le_of_lt HNl.out) (fun e => by cases e))
      have HUp : Hid (Pk.Upto (Tr.its L) k) := hup
      have hZr : RollAt wr w.heap.size (.slice none 0 0) [] := HZW.out.keepx hRo.bx (fun e => e.elim (fun e => by have := HNl.out; omega) (fun e => by cases e))
      by_cases hlt : k < n
      · have i1 : (k : Int) < (n : Int) := by omega
        obtain ⟨y, hy⟩ : ∃ y, Hid (L[k]? = some y) := ⟨_, List.getElem?_eq_getElem (by rw [hnn.out]; exact hlt)⟩
        have hyw := (HA.out.at hy.out)
        obtain ⟨b0, off0, hA0, -, hB0⟩ := hyw
        obtain ⟨b, off, rfl, hY, hB⟩ := (HA.out.keep hbw).at hy.out
        have HX : Hid ((Tr.its L)[k]? = some y.it) := by show _ = _; unfold Tr.its; rw [List.getElem?_map, hy.out]; rfl
        have HY : Hid (ItAt wr b (off + k * 6) y) := hY
        have hvo : ∀ x, v.ownBlock = some x → w.heap.size ≤ x := fun x hx => (World.ownsRow.lt hRo.own.2 x hx).1
        have hap : Apart wr y.ad y.it.body.length N v := fun b1 o1 e1 hn1 => by
          have hlb : b1 < w.heap.size := by
            have := hB0.row
            rw [e1] at this
            exact this.lt (k := 0) hn1
          exact ⟨Nat.lt_of_lt_of_le hlb hbw.size, by have := HNl.out; omega, fun e => by have := hvo _ e; omega⟩
        obtain ⟨R, hR⟩ : ∃ R, Hid (Pk.flat ((Tr.its L).take k) = R) := ⟨_, rfl⟩
        have hRb : R.length ≤ 1048576 := by rw [← hR.out]; have := hup.2.2; omega
        rw [hR.out] at hRo
        have HL : Hid (∀ u, Bw wr u → Calls Tryz.prog 37 #[.pointer (some ⟨N, 0, none⟩), .agg y.arr] u fun e w' => LayEnds w.heap.size N v R y.it u e w') := fun u hu =>
          lay_any w.heap.size N y R v hRb (Tr.step_may (HOk.out k y.it HX.out)) u (hbw.trans hu).size (hRo.at_.keep hu) ⟨hRo.own.1, own_keep hRo.own.2 hu⟩ (hB.keep hu) (apart_bw hap hu) (fun u2 h2 => HK.out.keep (Below.trans (hbw.trans hu) h2))
        have HRo : Hid (Rolls w.heap.size N (.slice none 0 0) [] R W wr v) := hRo
        have hiI := info_it y
        have hzi := zero_item12
        obtain ⟨Zi, hZi⟩ : ∃ Z, Hid (Z = zero6) := ⟨_, rfl⟩
        rw [← hZi.out] at hzi
        clear hY hB hB0 hA0 hap hvo hI hup hRo
        by_cases hbig : 131072 < (R ++ Pk.pcs y.it).length + 1024
        · have HLb : Hid (∀ u, Bw wr u → Calls Tryz.prog 37 #[.pointer (some ⟨N, 0, none⟩), .agg y.arr] u fun e w' => e = .returned (.int .i64 2) ∧ Rolls w.heap.size N v R R u w' v) := fun u hu => (HL.out u hu).mono fun e w' h => h.elim (fun h => h.2) (fun h => absurd hbig h.1)
          have HWS : Hid (Pk.wrF [] 0 (Tr.its L) = ([], k, 2)) := Pk.upto_stop HUp.out HX.out (by rw [hR.out]; exact hbig)
          clear hbig HL
          go_wp2_with (first
            | (refine wpList_load_it (by rfl) _ rfl b (off + k * 6) rfl y HY.out ?_)
            | (refine wpList_store_row rfl 47 _ _ rfl wr.heap.size y.arr rfl rfl 47 Zi (heap_alloc_new _ _) hiI (by rw [hZi.out]; rfl) (Tr.arr_one y) ?_; rw [setRow_alloc_new]; obtain ⟨w3, hw3⟩ : ∃ V, V = wr.alloc (.cells y.arr 47) := ⟨_, rfl⟩; have hb3 : Bw wr w3 := (by rw [hw3]; exact bw_alloc7 (Bw.refl _) _); have hX3 : BoxAt w3 wr.heap.size y := (by rw [hw3]; exact BoxAt.new _ _); rw [← hw3]; clear hw3)
            | (refine wpList_load_row rfl 47 _ rfl wr.heap.size rfl 47 y.arr (0, 0) _ hX3 Tryz.underlying47 rfl hiI ?_)
            | (go_at_call 37; refine (HLb.out _ hb3).mono ?_; rintro e w4 ⟨rfl, hR4⟩; have hR5 := (HRo.out.bw hb3).trans hR4 (Nat.zero_le _); have hZ4 : RollAt w4 w.heap.size (.slice none 0 0) [] := HZW.out.keepx hR5.bx (fun e => e.elim (fun e => by have := HNl.out; omega) (fun e => by cases e)))
            | (refine wpList_built10 rfl 69 _ rfl #[.slice none 0 0, .int .i64 0] (by kernel_rfl) ?_)
            | (refine wpList_store_row rfl 69 _ _ rfl w.heap.size #[.slice none 0 0, .int .i64 0] rfl rfl 69 _ hZ4 (info_roll _ _) rfl (roll_one _ _ _ _) ?_))
          refine bodyPost_ret (results_roll Tryz.results28 _ _ w.heap.size 69 #[.slice none 0 0, .int .i64 0] (0, 0) _ rfl (setRow_heap _ _ _ _ _ _ hZ4) Tryz.underlying69 rfl (info_roll _ _)) rfl ?_
          have hb5 : Bw w w4 := bw_of_bx hbwW hR5.bx (fun b e => e.elim (fun e => by rw [e]; exact Nat.le_of_lt HNl.out) (fun e => by cases e))
          refine ⟨.inl ?_, bw_of_bx hb5 (bx_set (S := fun b => b = w.heap.size) _ _ _ rfl) (fun b e => by rw [e]; exact Nat.le_refl _)⟩
          rw [HWr.out, HWS.out]
          exact ⟨show (2 : Int) ≠ 0 by decide, rfl⟩
        · have HLb : Hid (∀ u, Bw wr u → Calls Tryz.prog 37 #[.pointer (some ⟨N, 0, none⟩), .agg y.arr] u fun e w' => e = .returned (.int .i64 0) ∧ ∃ v', Rolls w.heap.size N v R (R ++ Pk.pcs y.it) u w' v') := fun u hu => (HL.out u hu).mono fun e w' h => h.elim (fun h => absurd h.1 hbig) (fun h => h.2)
          have HUN : Hid (Pk.Upto (Tr.its L) (k + 1)) := Pk.upto_next HUp.out HX.out (by rw [hR.out]; exact hbig)
          have HFN : Hid (Pk.flat ((Tr.its L).take (k + 1)) = R ++ Pk.pcs y.it) := by show _ = _; rw [Pk.flat_take HX.out, hR.out]
          clear hbig HL
          go_wp2_with (first
            | (refine wpList_load_it (by rfl) _ rfl b (off + k * 6) rfl y HY.out ?_)
            | (refine wpList_store_row rfl 47 _ _ rfl wr.heap.size y.arr rfl rfl 47 Zi (heap_alloc_new _ _) hiI (by rw [hZi.out]; rfl) (Tr.arr_one y) ?_; rw [setRow_alloc_new]; obtain ⟨w3, hw3⟩ : ∃ V, V = wr.alloc (.cells y.arr 47) := ⟨_, rfl⟩; have hb3 : Bw wr w3 := (by rw [hw3]; exact bw_alloc7 (Bw.refl _) _); have hX3 : BoxAt w3 wr.heap.size y := (by rw [hw3]; exact BoxAt.new _ _); rw [← hw3]; clear hw3)
            | (refine wpList_load_row rfl 47 _ rfl wr.heap.size rfl 47 y.arr (0, 0) _ hX3 Tryz.underlying47 rfl hiI ?_)
            | (go_at_call 37; refine (HLb.out _ hb3).mono ?_; rintro e w4 ⟨rfl, v4, hR4⟩; have hR5 := (HRo.out.bw hb3).trans hR4 (Nat.zero_le _)))
          go_round
          case measure => simp only [intOf]; omega
          case rel => exact ⟨k + 1, by omega, rfl, HUN.out, v4, by rw [HFN.out]; exact hR5⟩
      · have i1 : ¬ (k : Int) < (n : Int) := by omega
        obtain rfl : k = n := by omega
        have hT : (Tr.its L).take k = Tr.its L := List.take_of_length_le (by rw [Tr.its_len, hnn.out]; exact Nat.le_refl _)
        have HUE : Hid (Pk.Upto (Tr.its L) (Tr.its L).length) := by rw [Tr.its_len, hnn.out]; exact HUp.out
        rw [hT] at hRo
        obtain ⟨Av, cv, hve⟩ := own_slice hRo.own.2
        generalize (Pk.flat (Tr.its L)).length / 512 = mv at hve
        subst hve
        have hat := hRo.at_
        unfold RollAt at hat
        clear hI hup
        go_wp2_with (first
          | (refine wpList_load_row rfl 69 _ rfl N rfl 69 _ (0, 0) _ hat Tryz.underlying69 rfl (info_roll _ _) ?_)
          | (refine wpList_store_row rfl 69 _ _ rfl w.heap.size #[.slice Av mv cv, .int .i64 ((Pk.flat (Tr.its L)).length : Int)] rfl rfl 69 _ hZr (info_roll _ _) rfl (roll_one _ _ _ _) ?_))
        refine bodyPost_ret (results_roll Tryz.results28 _ _ w.heap.size 69 #[.slice Av mv cv, .int .i64 ((Pk.flat (Tr.its L)).length : Int)] (0, 0) _ rfl (setRow_heap _ _ _ _ _ _ hZr) Tryz.underlying69 rfl (info_roll _ _)) rfl ?_
        have hbx : Bx (fun b => b = w.heap.size) wr (wr.setRow w.heap.size #[.slice Av mv cv, .int .i64 ((Pk.flat (Tr.its L)).length : Int)]) := bx_set _ _ _ rfl
        refine ⟨.inr ?_, bw_of_bx hbw hbx (fun b e => by rw [e]; exact Nat.le_refl _)⟩
        have hlen := HUE.out.2.2
        rw [List.take_length] at hlen
        rw [HWr.out, Pk.upto_end HUE.out]
        exact ⟨rfl, rfl, hlen, Av, mv, cv, rfl, hRo.own.1, own_bx hRo.own.2 hbx (fun x hx e => roll_own_ne hZr hRo.own.2 (by rw [hx, e]))⟩
  · have e1 : (cE != 0) = true := by rw [bne_iff_ne]; exact h0
    have HWr : Hid (Pk.wr (Tr.its L) = ([], cA, cE)) := by show _ = _; rw [Pk.wr_bad (by rw [hC.out]; exact h0), hC.out]
    have HE : Hid (cE ≠ 0) := h0
    clear h0
    go_enter Tryz.func28, Tryz.ntmps28
    go_wp2_with (first
      | (go_at_call 35; refine (HCh.out _ hw1).mono ?_; rintro e w2 ⟨rfl, hw2⟩; have hZ2 := hZ0.keep hw2)
      | (refine wpList_built10 rfl 69 _ rfl #[.slice none 0 0, .int .i64 0] (by kernel_rfl) ?_)
      | (refine wpList_store_row rfl 69 _ _ rfl w.heap.size #[.slice none 0 0, .int .i64 0] rfl rfl 69 _ hZ2 (info_roll _ _) rfl (roll_one _ _ _ _) ?_))
    refine bodyPost_ret (results_roll Tryz.results28 _ _ w.heap.size 69 #[.slice none 0 0, .int .i64 0] (0, 0) _ rfl (setRow_heap _ _ _ _ _ _ hZ2) Tryz.underlying69 rfl (info_roll _ _)) rfl ?_
    refine ⟨.inl ?_, bw_of_bx (hw1.trans hw2) (bx_set (S := fun b => b = w.heap.size) _ _ _ rfl) (fun b e => by rw [e]; exact Nat.le_refl _)⟩
    rw [HWr.out]
    exact ⟨HE.out, rfl⟩
end Go.Proofs.YtldkhbkgmiicbaaGreatDoor

/- A range over a function whose elements lie in memory that it makes: what the iterator tells of the world at each yield (At) is handed to the round. -/
namespace Go.Proofs.YtldkhbkgmiicbaaGreatDoor
open Go.RowKit Go.Deep
set_option linter.unusedVariables false

/-- an iterator that tells, at each yield, what holds of the element there -/
def SeqAt {α : Type} (F : Fence) (n : Nat) (P : Program) (g : Nat) (lb : Array Value) (encs : α → Array Value) (Kp : World → World → Prop) (At : List α → α → World → Prop) (S Sp : List α → Prop) (w : World) : Prop :=
  ∀ (l : Nat) (J Jx : List α → World → Prop) (W : World), Below w.heap.size w W → AbidesFrom W.heap.size J → AbidesFrom W.heap.size Jx →
    (∀ pre x W1, J pre W1 → At pre x W1 → YieldAt F (n - 1) P l (encs x) W1 fun e W' =>
      (e = .returned (.bool true) ∧ J (pre ++ [x]) W' ∧ Kp W1 W') ∨ (e = .returned (.bool false) ∧ Jx (pre ++ [x]) W')) →
    J [] W →
    CallsIn F n P g (#[.func (.yield l) #[] #[]] ++ lb) W fun e W' => (∃ v, e = .returned v) ∧ ((∃ xs, S xs ∧ J xs W') ∨ (∃ pre, Sp pre ∧ Jx pre W'))
theorem range_at {α : Type} {F : Fence} {n : Nat} {P : Program} {g : Operand} {ps : Array Tmp} {assign body : Code} {Q : Exit → Act → World → Prop} {a : Act} {w : World}
    (hro : F.round = none) (h1 : 1 ≤ n) {gf : Nat} {lb : Array Value} (hg : a.eval g = .func (.func gf) #[] lb) (hFg : F.fn gf) (eg : ∀ args w, (callFunc gf args).run P w = .ok (.enter gf args) w)
    {encs : α → Array Value} {Kp : World → World → Prop} {At : List α → α → World → Prop} {S Sp : List α → Prop} {w0 : World} (hseq : SeqAt F (n - 1) P gf lb encs Kp At S Sp w0)
    (hKt : ∀ {A B C : World}, Kp A B → Kp B C → Kp A C) (hKb : ∀ (W : World) (l : Nat) (o o' : Obj), w.heap.size ≤ l → W.heap[l]? = some o → o.isCells = false → o.isWalk = false → Kp W (W.putObj l o')) (hb0 : Below w0.heap.size w0 w) (hps : ∀ x, (encs x).size = ps.size)
    (hAt : ∀ pre x (W : World) (l : Nat) (o o' : Obj), w.heap.size ≤ l → W.heap[l]? = some o → o.isCells = false → At pre x W → At pre x (W.putObj l o'))
    (I : List α → World → Prop) (Ix : Code → List α → World → Prop) (hI : OwnFrom w.heap.size I) (hIx : ∀ c, OwnFrom w.heap.size (Ix c)) (h0 : I [] w) (a₁ : α → Act)
    (hassign : ∀ (l : Nat) (x : α) (W : World) (K : Act → World → Prop), K (a₁ x) W →
      assign.wpIn (F.inRound l) (n - 1 - 1) P (Exit.then K (fun _ _ _ => False)) { tmps := (ps.zip (encs x)).foldl (fun t (p, v) => t.setIfInBounds p v) a.tmps, defers := [] } W)
    (hbody : ∀ (l : Nat) (pre : List α) (x : α) (W : World), I pre W → At pre x W → body.wpIn (F.inRound l) (n - 1 - 1) P (ownPostK Kp I Ix (pre ++ [x]) W) (a₁ x) W)
    (hdone : ∀ (D : Nat) (xs : List α) (W : World), w.heap.size ≤ D → S xs → I xs W → W.heap[D]? = some (.deferred (some [])) → Q .normal { a with defers := { target := .collected D, args := #[] } :: a.defers } W)
    (hstop : ∀ (D : Nat) (c : Code) (pre : List α) (W : World), w.heap.size ≤ D → Sp pre → Ix c pre W → W.heap[D]? = some (.deferred (some [])) → c.wpIn F n P Q { a with defers := { target := .collected D, args := #[] } :: a.defers } W) :
    (Code.rangeFunc g ps assign body).wpIn F n P Q a w := by
  refine wpIn_rangeFunc ?_
  intro fn hfn
  rw [hro]
  -- the loop's own record, in each of its states; the block for deferred calls lies ahead of it
  obtain ⟨L, hL⟩ : ∃ L : LoopState → Option Code → Loop, L = fun st pe => { state := st, pending := pe, fn, tmps := a.tmps, params := ps, assign, body, defers := w.heap.size } := ⟨_, rfl⟩
  obtain ⟨V, hV⟩ : ∃ V, (w.alloc (.deferred (some []))).alloc (.loop (L .ready none)) = V := ⟨_, rfl⟩
  have sV : V.heap.size = w.heap.size + 2 := by rw [← hV]; simp
  have lV : V.heap[w.heap.size + 1]? = some (.loop (L .ready none)) := by
    have := World.alloc_heap_new (w.alloc (.deferred (some []))) (.loop (L .ready none))
    rw [World.size_alloc] at this
    rw [← hV]; exact this
  have dV : V.heap[w.heap.size]? = some (.deferred (some [])) := by
    rw [← hV]; exact (Below.heap_alloc _ _ _ (by simp)).trans (World.alloc_heap_new w _)
  have bV : Below w0.heap.size w0 V := by
    rw [← hV]; exact hb0.trans ((((Below.refl _ w).alloc (Nat.le_refl _) _).alloc (by simp) _).mono hb0.size)
  refine ⟨w.heap.size + 1, [{ target := .collected w.heap.size, args := #[] }], V, { target := .fn (.func gf) lb, args := #[.func (.yield (w.heap.size + 1)) #[] #[]] }, V, gf,
    #[.func (.yield (w.heap.size + 1)) #[] #[]] ++ lb, V, ?_, ?_, ?_, ?_, fun _ => h1, ?_⟩
  · rw [← hV, hL]; exact run_enterLoop_outer _ _ _ _ _
  · simp only [resolve, hg]
    simp [go_sem]
  · intro f' hf'; simp [Target.leads] at hf'; subst hf'; exact hFg
  · simp [invoke, go_sem, eg]
  have turn : ∀ {A : World} {row : Option Nat}, (∀ r, row = some r → V.heap.size ≤ r ∧ ∃ o : Obj, A.heap[r]? = some o ∧ o.isWalk = true) → (∀ r, row = some r → w.heap.size ≤ r ∧ ∃ o : Obj, A.heap[r]? = some o ∧ o.isCells = false) :=
    fun h r e => by obtain ⟨hB, o, ho, hw⟩ := h r e; exact ⟨by omega, o, ho, Obj.not_cells_of_walk hw⟩
  refine (hseq (w.heap.size + 1)
    (fun pre W => I pre W ∧ W.heap[w.heap.size + 1]? = some (.loop (L .ready none)) ∧ W.heap[w.heap.size]? = some (.deferred (some [])))
    (fun pre W => ∃ c, Ix c pre W ∧ W.heap[w.heap.size + 1]? = some (.loop (L .done (some c))) ∧ W.heap[w.heap.size]? = some (.deferred (some [])))
    V bV
    (fun s A B row hs hg' hr => ⟨hI s A B row hs.1 hg' (turn hr), (grownBy_keeps hg' (fun r e => (hr r e).2) hs.2.1 rfl).trans hs.2.1, (grownBy_keeps hg' (fun r e => (hr r e).2) hs.2.2 rfl).trans hs.2.2⟩)
    (fun s A B row hs hg' hr => by
      obtain ⟨c, hc, hl, hk⟩ := hs
      exact ⟨c, hIx c s A B row hc hg' (turn hr), (grownBy_keeps hg' (fun r e => (hr r e).2) hl rfl).trans hl, (grownBy_keeps hg' (fun r e => (hr r e).2) hk rfl).trans hk⟩)
    ?_ ⟨by rw [← hV]; exact hI.alloc _ (hI.alloc _ h0), lV, dV⟩).mono ?_
  · rintro pre x W ⟨hi, hl, hk⟩ hat
    have hlt : w.heap.size + 1 < W.heap.size := (Array.getElem?_eq_some_iff.1 hl).1
    have hy := run_yield (P := P) (args := encs x) hl (by rw [hL]; exact hps x)
    rw [hL] at hy
    refine ⟨fn, _, assign, body, hy, roundIn_of_wpIn hfn (hassign _ x W _ ⟨_, run_beginRound hl (by rw [hL]), ?_⟩)⟩
    obtain ⟨U, hU⟩ : ∃ U, W.putObj (w.heap.size + 1) (.loop { L .ready none with state := .busy }) = U := ⟨_, rfl⟩
    have lU : U.heap[w.heap.size + 1]? = some (.loop { L .ready none with state := .busy }) := by rw [← hU]; exact World.putObj_heap_same hlt
    have dU : U.heap[w.heap.size]? = some (.deferred (some [])) := by rw [← hU]; exact (World.putObj_heap_other (by omega)).trans hk
    have kU : Kp W U := by rw [← hU]; exact hKb _ _ _ _ (by omega) hl rfl rfl
    have iU : I pre U := by rw [← hU]; exact hI.putObj _ hi (by omega) hl rfl
    have aU : At pre x U := by rw [← hU]; exact hAt _ _ _ _ _ _ (by omega) hl rfl hat
    rw [hU]
    refine wpIn_mono (hbody _ pre x _ iU aU) ?_
    -- how the round's record is turned at its end
    have fin : ∀ (j : Option Code) (W3 : World), KeepsOthers U W3 →
        (Instr.endRound (w.heap.size + 1) j).run P W3 = .ok (.bool j.isNone) (W3.putObj (w.heap.size + 1) (.loop (L (if j.isNone then .ready else .done) j))) ∧
        W3.heap[w.heap.size + 1]? = some (.loop { L .ready none with state := .busy }) ∧
        (W3.putObj (w.heap.size + 1) (.loop (L (if j.isNone then .ready else .done) j))).heap[w.heap.size + 1]? = some (.loop (L (if j.isNone then .ready else .done) j)) ∧
        (W3.putObj (w.heap.size + 1) (.loop (L (if j.isNone then .ready else .done) j))).heap[w.heap.size]? = some (.deferred (some [])) := fun j W3 hk3 => by
      have hl3 := hk3.same _ _ lU rfl
      have hr3 := run_endRound (P := P) j hl3
      rw [hL] at hr3 ⊢
      exact ⟨hr3, by rw [hL] at hl3; exact hl3, World.putObj_heap_same (Array.getElem?_eq_some_iff.1 hl3).1, (World.putObj_heap_other (by omega)).trans (hk3.same _ _ dU rfl)⟩
    rintro e a3 W3 hp
    cases e with
    | normal =>
      obtain ⟨hk3, hkp3, hi3⟩ := hp
      obtain ⟨hr, hl3, hl4, hk4⟩ := fin none W3 hk3
      exact ⟨_, _, hr, .inl ⟨rfl, ⟨hI.putObj _ hi3 (by omega) hl3 rfl, hl4, hk4⟩, hKt (hKt kU hkp3) (hKb _ _ _ _ (by omega) hl3 rfl rfl)⟩⟩
    | ret =>
      obtain ⟨hr, hl3, hl4, hk4⟩ := fin (some .ret) W3 hp.1
      exact ⟨_, _, hr, .inr ⟨rfl, .ret, (hIx _).putObj _ hp.2 (by omega) hl3 rfl, hl4, hk4⟩⟩
    | exit id =>
      obtain ⟨hr, hl3, hl4, hk4⟩ := fin (some (.exit id)) W3 hp.1
      exact ⟨_, _, hr, .inr ⟨rfl, .exit id, (hIx _).putObj _ hp.2 (by omega) hl3 rfl, hl4, hk4⟩⟩
    | goto t =>
      obtain ⟨hr, hl3, hl4, hk4⟩ := fin (some (.goto t)) W3 hp.1
      exact ⟨_, _, hr, .inr ⟨rfl, .goto t, (hIx _).putObj _ hp.2 (by omega) hl3 rfl, hl4, hk4⟩⟩
    | panic ch => exact hp.elim
    | outgrown => exact hp.elim
  · rintro e W2 ⟨⟨v, rfl⟩, (⟨xs, hS, hi, hl, hk⟩ | ⟨pre, hSp, c, hi, hl, hk⟩)⟩
    · exact ⟨none, _, by have := run_endLoop (P := P) hl (by rw [hL]; simp); rw [hL] at this; exact this, hdone _ xs _ (Nat.le_refl _) hS (hI.putObj _ hi (by omega) hl rfl) ((World.putObj_heap_other (by omega)).trans hk)⟩
    · exact ⟨some c, _, by have := run_endLoop (P := P) hl (by rw [hL]; simp); rw [hL] at this; exact this, hstop _ c pre _ (Nat.le_refl _) hSp ((hIx c).putObj _ hi (by omega) hl rfl) ((World.putObj_heap_other (by omega)).trans hk)⟩
end Go.Proofs.YtldkhbkgmiicbaaGreatDoor

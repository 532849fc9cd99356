/- Texts of mine, put together. -/
import Derived.Test.YtldkhbkgmiicbabGreatDoorBu10
import Derived.Maps.OwnSet
import Derived.StringKeys

/- The program's own Find and hasFile, of layer 11, as landed at 97b3c5cd. -/
namespace Go.Proofs.YtldkhbkgmiicbabGreatDoor
open Go.RowKit Go.Deep
set_option linter.unusedVariables false
set_option linter.unusedSimpArgs false

set_option maxRecDepth 100000 in
theorem find1_any (y : Tr.Iv) (p : Tr.B) (g : Nat) (w : World) (hg : w.cell? ⟨g, 0, none⟩ = some (.string (Nm.S p))) : Calls Tryz.prog 75 #[.agg y.arr, .pointer (some ⟨g, 0, none⟩)] w fun e w' => e = .returned (.bool (decide (y.it.path = p))) ∧ Bw w w' := by
  obtain ⟨W, hW⟩ : ∃ W, W = w.alloc (.cells y.arr 26) := ⟨_, rfl⟩
  have hbw : Bw w W := by rw [hW]; exact bw_alloc11 (Bw.refl _) _
  have hX : BoxAt W w.heap.size y := by rw [hW]; exact BoxAt.new _ _
  obtain ⟨x0, x1, x2, x3, x4, x5⟩ := hX.cells
  have hg2 := keep_cell11 hg hbw
  have es := Tr.S_eql y.it.path p
  clear hX hg
  go_enter Tryz.func75, Tryz.ntmps75
  go_upto_region 1 with fail
  rw [← hW]
  clear hW
  go_wp2
  go_ret
  exact ⟨rfl, hbw⟩
/-- a place, or -1 -/
def Tr.findI (t : List Tr.It) (p : Tr.B) : Int := match Tr.find t p with | some i => (i : Int) | none => -1
set_option maxRecDepth 100000 in
set_option maxHeartbeats 1000000 in
theorem indexf_any (A : Option Addr) (cap : Nat) (L : List Tr.Iv) (p : Tr.B) (g : Nat) (hn : L.length ≤ 4611686018427387904) (w : World) (ha : ItsAt w A L) (hg : w.cell? ⟨g, 0, none⟩ = some (.string (Nm.S p))) :
    Calls Tryz.prog 74 #[.slice A L.length cap, .func (.func 75) #[] #[.pointer (some ⟨g, 0, none⟩)]] w fun e w' => e = .returned (.int .i64 (Tr.findI (Tr.its L) p)) ∧ Bw w w' := by
  obtain ⟨r, hR⟩ : ∃ r, Hid (Tr.findI (Tr.its L) p = r) := ⟨_, rfl⟩
  rw [hR.out]
  obtain ⟨n, hnn⟩ : ∃ n, Hid (L.length = n) := ⟨_, rfl⟩
  rw [hnn.out] at hn ⊢
  have HA : Hid (ItsAt w A L) := ha
  have HG : Hid (w.cell? ⟨g, 0, none⟩ = some (.string (Nm.S p))) := hg
  clear ha hg
  go_enter Tryz.func74, Tryz.ntmps74
  go_wp2
  go_loopw [8] (fun i wr => ∃ k : Nat, k ≤ n ∧ i = .int .i64 (k : Int) ∧ Hid (∀ (j : Nat) (q : Tr.It), j < k → (Tr.its L)[j]? = some q → q.path ≠ p) ∧ Bw w wr) (fun i _ => n - (intOf i).toNat)
  case atStart => exact ⟨0, Nat.zero_le _, rfl, fun j q hj => absurd hj (Nat.not_lt_zero _), Bw.refl _⟩
  case round =>
    obtain ⟨i, hi, rfl, hno, hbw⟩ := hrel
    have i0 : (0 : Int) ≤ (i : Int) := Int.natCast_nonneg _
    by_cases hlt : i < n
    · have i1 : (i : Int) < (n : Int) := by omega
      obtain ⟨y, hy⟩ : ∃ y, Hid (L[i]? = some y) := ⟨_, List.getElem?_eq_getElem (by rw [hnn.out]; exact hlt)⟩
      obtain ⟨b, off, rfl, hY, -⟩ := (HA.out.keep hbw).at hy.out
      obtain ⟨d, hd⟩ : ∃ d, Hid (decide (y.it.path = p) = d) := ⟨_, rfl⟩
      have HF : Hid (∀ u, Bw w u → Calls Tryz.prog 75 #[.agg y.arr, .pointer (some ⟨g, 0, none⟩)] u fun e w' => e = .returned (.bool d) ∧ Bw u w') := fun u hu => by
        rw [← hd.out]; exact find1_any y p g u (keep_cell11 HG.out hu)
      have HY : Hid (ItAt wr b (off + i * 6) y) := hY
      clear hY
      cases d with
      | true =>
        have hp := of_decide_eq_true hd.out
        obtain rfl : (i : Int) = r := by
          rw [← hR.out]; unfold Tr.findI; rw [Tr.find_at _ _ i _ (Tr.its_at hy.out) hp hno.out]
        clear hp
        go_wp2_with (first
          | refine wpList_load_it (by rfl) (.tmp 14) rfl b (off + i * 6) rfl y HY.out ?_
          | (go_at_call 75; refine (HF.out _ hbw).mono ?_; rintro e w1 ⟨rfl, hw1⟩))
        go_ret
        exact ⟨rfl, hbw.trans hw1⟩
      | false =>
        have hp := of_decide_eq_false hd.out
        have nx : Hid (∀ (j : Nat) (q : Tr.It), j < i + 1 → (Tr.its L)[j]? = some q → q.path ≠ p) := fun j q hj hq => by
          rcases Nat.lt_or_ge j i with h | h
          · exact hno.out j q h hq
          · rw [show j = i by omega, Tr.its_at hy.out, Option.some.injEq] at hq
            rw [← hq]; exact hp
        clear hp
        go_wp2_with (first
          | refine wpList_load_it (by rfl) (.tmp 14) rfl b (off + i * 6) rfl y HY.out ?_
          | (go_at_call 75; refine (HF.out _ hbw).mono ?_; rintro e w1 ⟨rfl, hw1⟩))
        go_roundw
        case rel => exact ⟨i + 1, by omega, by go_num, nx, hbw.trans hw1⟩
        case measure => simp [intOf]; omega
    · have ei : i = n := by omega
      subst ei
      obtain rfl : (-1 : Int) = r := by
        rw [← hR.out]; unfold Tr.findI
        rw [Tr.find_none _ _ (fun j q hq => hno.out j q (by have := (List.getElem?_eq_some_iff.1 hq).1; rw [Tr.its_len, hnn.out] at this; exact this) hq)]
      go_wp2
      go_ret
      exact ⟨rfl, hbw⟩
set_option maxRecDepth 100000 in
theorem tfind_any (A : Option Addr) (cap : Nat) (L : List Tr.Iv) (p : Tr.B) (hn : L.length ≤ 4611686018427387904) (w : World) (ha : ItsAt w A L) :
    Calls Tryz.prog 57 #[.slice A L.length cap, .string (Nm.S p)] w fun e w' => e = .returned (.tuple #[.int .i64 ((Tr.findE (Tr.its L) p).1 : Int), .int .i64 (Tr.findE (Tr.its L) p).2]) ∧ Bw w w' := by
  obtain ⟨rA, rE, hR⟩ : ∃ a b, Hid (Tr.findE (Tr.its L) p = (a, b)) := ⟨_, _, show Tr.findE (Tr.its L) p = _ from rfl⟩
  rw [hR.out]
  dsimp only
  obtain ⟨r, hI⟩ : ∃ r, Hid (Tr.findI (Tr.its L) p = r) := ⟨_, rfl⟩
  have HX : Hid (∀ u, ItsAt u A L → u.cell? ⟨w.heap.size, 0, none⟩ = some (.string (Nm.S p)) → Calls Tryz.prog 74 #[.slice A L.length cap, .func (.func 75) #[] #[.pointer (some ⟨w.heap.size, 0, none⟩)]] u fun e w' => e = .returned (.int .i64 r) ∧ Bw u w') := fun u h1 h2 => by
    rw [← hI.out]; exact indexf_any A cap L p w.heap.size hn u h1 h2
  obtain ⟨n, hnn⟩ : ∃ n, Hid (L.length = n) := ⟨_, rfl⟩
  rw [hnn.out] at hn HX ⊢
  obtain ⟨W, hW⟩ : ∃ W, W = w.alloc (.cells #[.string (Nm.S p)] 9) := ⟨_, rfl⟩
  have hbw : Bw w W := by rw [hW]; exact bw_alloc11 (Bw.refl _) _
  have HC : Hid (W.cell? ⟨w.heap.size, 0, none⟩ = some (.string (Nm.S p))) := by show _ = _; rw [hW]; exact (new_cell8 w _ _).1
  have HA : Hid (ItsAt W A L) := ha.keep hbw
  clear ha
  rcases hf : Tr.find (Tr.its L) p with _ | i
  · have hr := hR.out
    unfold Tr.findE at hr
    rw [hf, Prod.mk.injEq] at hr
    obtain ⟨rfl, rfl⟩ := hr
    obtain rfl : (-1 : Int) = r := by rw [← hI.out]; unfold Tr.findI; rw [hf]
    clear hf
    go_enter Tryz.func57, Tryz.ntmps57
    go_upto_region 1 with fail
    rw [← hW]
    clear hW
    go_wp2_with (go_at_call 74; refine (HX.out _ HA.out HC.out).mono ?_; rintro e w1 ⟨rfl, hw1⟩)
    go_ret2
    exact ⟨rfl, hbw.trans hw1⟩
  · have hr := hR.out
    unfold Tr.findE at hr
    rw [hf, Prod.mk.injEq] at hr
    obtain ⟨rfl, rfl⟩ := hr
    obtain rfl : (i : Int) = r := by rw [← hI.out]; unfold Tr.findI; rw [hf]
    have i0 : (0 : Int) ≤ (i : Int) := Int.natCast_nonneg _
    clear hf
    go_enter Tryz.func57, Tryz.ntmps57
    go_upto_region 1 with fail
    rw [← hW]
    clear hW
    go_wp2_with (go_at_call 74; refine (HX.out _ HA.out HC.out).mono ?_; rintro e w1 ⟨rfl, hw1⟩)
    go_ret2
    exact ⟨rfl, hbw.trans hw1⟩
set_option maxRecDepth 100000 in
theorem hasfile_any (A : Option Addr) (cap : Nat) (L : List Tr.Iv) (p : Tr.B) (hn : L.length ≤ 4611686018427387904) (hs : Tr.Srt (Tr.its L)) (w : World) (ha : ItsAt w A L) :
    Calls Tryz.prog 42 #[.slice A L.length cap, .string (Nm.S p)] w fun e w' => e = .returned (.bool (Tr.hasB (Tr.its L) p 1)) ∧ Bw w w' := by
  obtain ⟨r, hR⟩ : ∃ r, Hid (Tr.hasB (Tr.its L) p 1 = r) := ⟨_, rfl⟩
  rw [hR.out]
  obtain ⟨n, hnn⟩ : ∃ n, Hid (L.length = n) := ⟨_, rfl⟩
  obtain ⟨rA, rE, hE⟩ : ∃ a b, Hid (Tr.findE (Tr.its L) p = (a, b)) := ⟨_, _, show Tr.findE (Tr.its L) p = _ from rfl⟩
  have HX : Hid (∀ u, ItsAt u A L → Calls Tryz.prog 57 #[.slice A n cap, .string (Nm.S p)] u fun e w' => e = .returned (.tuple #[.int .i64 (rA : Int), .int .i64 rE]) ∧ Bw u w') := fun u h => by
    have := tfind_any A cap L p hn u h
    rwa [hE.out, hnn.out] at this
  rw [hnn.out] at hn ⊢
  have HA : Hid (ItsAt w A L) := ha
  clear ha
  rcases hf : Tr.find (Tr.its L) p with _ | i
  · have hr := hE.out
    unfold Tr.findE at hr
    rw [hf, Prod.mk.injEq] at hr
    obtain ⟨rfl, rfl⟩ := hr
    obtain rfl : false = r := by rw [← hR.out]; exact (Tr.has_none hf).symm
    clear hf hs
    go_enter Tryz.func42, Tryz.ntmps42
    go_wp2_with (go_at_call 57; refine (HX.out _ HA.out).mono ?_; rintro e w1 ⟨rfl, hw1⟩)
    go_ret
    exact ⟨rfl, hw1⟩
  · have hr := hE.out
    unfold Tr.findE at hr
    rw [hf, Prod.mk.injEq] at hr
    obtain ⟨rfl, rfl⟩ := hr
    obtain ⟨x, hx, hxp, -⟩ := Tr.find_some _ _ _ hf
    obtain ⟨y, hy, rfl⟩ := Tr.its_of hx
    have hh := Tr.has_find hs (k := 1) hf hx
    rw [hR.out] at hh
    obtain ⟨b, off, rfl, hY, -⟩ := HA.out.at hy
    have HY : Hid (ItAt w b (off + i * 6) y) := hY
    have hlt : i < n := by have := (List.getElem?_eq_some_iff.1 hy).1; rw [hnn.out] at this; exact this
    have i0 : (0 : Int) ≤ (i : Int) := Int.natCast_nonneg _
    have i1 : (i : Int) < (n : Int) := by omega
    have hb : ((y.it.kind : Int) == 1) = r := by
      rw [hh]
      by_cases h : y.it.kind = 1
      · rw [decide_eq_true h, h]; rfl
      · rw [decide_eq_false h, beq_eq_false_iff_ne]; omega
    clear hf hs hx hxp hh hY hy
    go_enter Tryz.func42, Tryz.ntmps42
    go_wp2_with (go_at_call 57; refine (HX.out _ HA.out).mono ?_; rintro e w1 ⟨rfl, hw1⟩; have c1 := (HY.out.keep hw1).c1)
    go_ret
    exact ⟨rfl, hw1⟩
end Go.Proofs.YtldkhbkgmiicbabGreatDoor

/- The program's own mayFollow, of layer 11, as landed at 97b3c5cd: folders in a map. -/
namespace Go.Proofs.YtldkhbkgmiicbabGreatDoor
open Go.RowKit Go.Deep
set_option linter.unusedVariables false
set_option linter.unusedSimpArgs false

/-- a set of texts -/
def SetAt (w : World) (g n : Nat) (f : Tr.B → Bool) : Prop := ∃ D : DataW Unit, w.ownsMap Tryz.prog 9 unitElem g n D ∧ Maps.IsMap D ∧ ∀ k : Tr.B, Maps.has D (.string k) = f k
theorem SetAt.lt {w : World} {g n : Nat} {f : Tr.B → Bool} (h : SetAt w g n f) : g < w.heap.size := by
  obtain ⟨D, h1, _⟩ := h; exact World.ownsMap.lt h1
theorem SetAt.keepb {w w' : World} {g n B : Nat} {f : Tr.B → Bool} (h : SetAt w g n f) (k : Below B w w') (hg : g < B) : SetAt w' g n f := by
  obtain ⟨D, ⟨es, clock, hb, F, hs, hD⟩, h2⟩ := h
  exact ⟨D, ⟨es, clock, (k.block g hg).trans hb, F, hs, hD⟩, h2⟩
theorem SetAt.keep {w w' : World} {g n : Nat} {f : Tr.B → Bool} (h : SetAt w g n f) (k : Bw w w') : SetAt w' g n f := h.keepb k h.lt
theorem set_new (w : World) : SetAt (w.alloc (.map #[] 0)) w.heap.size 0 (fun _ => false) := ⟨.map [], World.ownsMap_made w Tryz.prog 9 unitElem, Maps.isMap_empty, fun _ => rfl⟩
theorem key_str (p : Tr.B) (h : p.length ≤ 140737488355328) : keyOf Tryz.prog 9 (.string (Nm.S p)) = some (.string p) := by
  have := WideMaps.keyOf_string_mk Tryz.underlying9 (s := Nm.S p) (by rw [Nm.size_S]; unfold maxLen; omega)
  exact this
theorem has_put11 {D : DataW Unit} (h : Maps.IsMap D) (p k : Tr.B) : Maps.has (D.put (.string p) (.agg [])) (.string k) = (decide (k = p) || Maps.has D (.string k)) := by
  by_cases e : k = p
  · subst e
    rw [decide_eq_true rfl, Maps.has_put_same h (by trivial)]; rfl
  · rw [decide_eq_false e, Maps.has_put_other (fun q => e (by cases q; rfl))]; rfl
/-- a text into a set -/
theorem run_set11 {w : World} {g n : Nat} {f : Tr.B → Bool} (h : SetAt w g n f) (hn : n ≤ 1000000) (p : Tr.B) (hp : p.length ≤ 140737488355328) :
    ∃ w', (Instr.mapUpdate 68 (.map (some g)) (.string (Nm.S p)) (.agg #[])).run Tryz.prog w = .ok () w' ∧ SetAt w' g (n + 1) (fun k => decide (k = p) || f k) ∧ Bx (· = g) w w' := by
  obtain ⟨D, h1, h2, h3⟩ := h
  obtain ⟨w', hrun, r1, r2⟩ := h1.update (t := 68) (Maps.string_keyed Tryz.underlying9) Tryz.underlying68 (by unfold maxLen; omega) (key_str p hp) unitElem_mk
  refine ⟨w', hrun, ⟨_, r1, h2.put _ _, fun k => by rw [has_put11 h2, h3]⟩, ⟨r2.os, r2.tape, r2.output, r2.size, fun b hb hne => r2.block b hb (fun e => hne (by cases e; rfl))⟩⟩
theorem wpList_put11 {w : World} {ops : Array Oper} {rest : List Oper} {o : Oper} {a : Act} {Q : Exit → Act → World → Prop} (hgd : o.guard = none) (m x v : Operand) (hop : o.op = Op.mapUpdate 68 m x v ∨ o.op = Op.insert 68 m x v)
    (g n : Nat) (f : Tr.B → Bool) (p : Tr.B) (hm : a.eval m = .map (some g)) (h : SetAt w g n f) (hn : n ≤ 1000000) (hx : a.eval x = .string (Nm.S p)) (hv : a.eval v = .agg #[]) (hp : p.length ≤ 140737488355328)
    (hK : ∀ w', SetAt w' g (n + 1) (fun k => decide (k = p) || f k) → Bx (· = g) w w' → wpList Tryz.prog ops Q rest (a.put o.dst undef) w') : wpList Tryz.prog ops Q (o :: rest) a w := by
  refine wpList_plain hgd fun K' hK' => ?_
  obtain ⟨w', hrun, r1, r2⟩ := run_set11 h hn p hp
  unfold Oper.wp
  rcases hop with hop | hop
  · simp [execOp, hop, hm, hx, hv, hrun, Result.andThen]
    exact hK' _ _ (hK w' r1 r2)
  · simp [execOp, hop, hm, hx, hv, hrun, Result.andThen]
    exact hK' _ _ (hK w' r1 r2)
theorem wpList_look11 {w : World} {ops : Array Oper} {rest : List Oper} {o : Oper} {a : Act} {Q : Exit → Act → World → Prop} (hgd : o.guard = none) (m x : Operand) (hop : o.op = Op.lookup 68 m x true)
    (g n : Nat) (f : Tr.B → Bool) (p : Tr.B) (hm : a.eval m = .map (some g)) (h : SetAt w g n f) (hx : a.eval x = .string (Nm.S p)) (hp : p.length ≤ 140737488355328)
    (hK : wpList Tryz.prog ops Q rest (a.put o.dst (.tuple #[.agg #[], .bool (f p)])) w) : wpList Tryz.prog ops Q (o :: rest) a w := by
  obtain ⟨D, h1, h2, h3⟩ := h
  refine wpList_lookup_own_unit w hgd m x _ hop 9 67 (Maps.string_keyed Tryz.underlying9) Tryz.underlying68 (by kernel_rfl) g n D hm h1 _ (.string p) hx (key_str p hp) ?_
  rw [h3]; exact hK
/-- the folders of a list, and the root -/
def Tr.fset (t : List Tr.It) (k : Tr.B) : Bool := decide (k = []) || Tr.hasB t k 2
set_option maxRecDepth 100000 in
set_option maxHeartbeats 8000000 in
theorem follow1_any (A : Option Addr) (cap g m : Nat) (L : List Tr.Iv) (y : Tr.Iv) (hn : L.length ≤ 1000000) (hs : Tr.Srt (Tr.its L)) (hmy : ∀ z ∈ L, Tr.mayE z.it = 0) (hf : Tr.Fit y.it) (w : World) (ha : ItsAt w A L) (hg : SetAt w g m (Tr.fset (Tr.its L))) :
    Calls Tryz.prog 29 #[.slice A L.length cap, .map (some g), .agg y.arr] w fun e w' => e = .returned (.int .i64 (Tr.stepE (Tr.its L) y.it)) ∧ Bw w w' := by
  have hstep := Tr.step_is (Tr.its L) y.it
  obtain ⟨R, hR⟩ : ∃ R, Hid (Tr.stepE (Tr.its L) y.it = R) := ⟨_, rfl⟩
  rw [hR.out] at hstep ⊢
  have HF : Hid (Tr.Fit y.it) := hf
  have hfp := hf.path
  have hft := hf.to
  obtain ⟨em, hem⟩ : ∃ em, Hid (Tr.mayE y.it = em) := ⟨_, rfl⟩
  have HMay : Hid (∀ u, Calls Tryz.prog 25 #[.agg y.arr] u fun e w' => e = .returned (.int .i64 em) ∧ Bw u w') := fun u => by
    rw [← hem.out]; exact tmay_any y HF.out u
  rw [hem.out] at hstep
  obtain ⟨bh, hbh⟩ : ∃ r, Hid (Tr.behind (Tr.its L) y.it = r) := ⟨_, rfl⟩
  obtain ⟨up, hup⟩ : ∃ r, Hid (Nm.up y.it.path = r) := ⟨_, rfl⟩
  obtain ⟨b1, hb1⟩ : ∃ r, Hid (Tr.hasB (Tr.its L) y.it.to 1 = r) := ⟨_, rfl⟩
  obtain ⟨fo, hfo⟩ : ∃ r, Hid (Tr.fset (Tr.its L) up = r) := ⟨_, rfl⟩
  have hfeq : (up ≠ [] ∧ Tr.hasB (Tr.its L) up 2 = false) ↔ fo = false := by
    rw [← hfo.out]; unfold Tr.fset
    rw [Bool.or_eq_false_iff, decide_eq_false_iff_not]
  rw [hbh.out, hup.out, hb1.out] at hstep
  have hupl : Hid (up.length ≤ 140737488355328) := by
    show _ ≤ _; rw [← hup.out]; have := Nm.up_len y.it.path; omega
  have HHF : Hid (∀ u, Bw w u → Calls Tryz.prog 42 #[.slice A L.length cap, .string (Nm.S y.it.to)] u fun e w' => e = .returned (.bool b1) ∧ Bw u w') := fun u hu => by
    rw [← hb1.out]; exact hasfile_any A cap L y.it.to (by omega) hs u (ha.keep hu)
  obtain ⟨n, hnn⟩ : ∃ n, Hid (L.length = n) := ⟨_, rfl⟩
  rw [hnn.out] at hn HHF ⊢
  obtain ⟨W, hW⟩ : ∃ W, W = w.alloc (.cells y.arr 26) := ⟨_, rfl⟩
  have hbw : Bw w W := by rw [hW]; exact bw_alloc11 (Bw.refl _) _
  have hX : Hid (BoxAt W w.heap.size y) := by rw [hW]; exact BoxAt.new _ _
  have HA : Hid (ItsAt w A L) := ha
  have HG : Hid (SetAt w g m (Tr.fset (Tr.its L))) := hg
  have HMY : Hid (∀ z ∈ L, Tr.mayE z.it = 0) := hmy
  have HST : Hid _ := hstep
  have HFE : Hid ((up ≠ [] ∧ Tr.hasB (Tr.its L) up 2 = false) ↔ fo = false) := hfeq
  clear ha hg hmy hstep hfeq hs hf
  by_cases h0 : em = 0
  · subst h0
    have HUp : Hid (∀ u, Calls Tryz.prog 41 #[.string (Nm.S y.it.path)] u fun e w' => e = .returned (.string (Nm.S up)) ∧ w' = u) := fun u => by
      rw [← hup.out]
      exact nupL y.it.path (by have := (Tr.may_len hem.out).1; omega) u
    go_enter Tryz.func29, Tryz.ntmps29
    go_upto_region 1 with fail
    rw [← hW]
    clear hW
    go_upto_region 4 with (first
      | refine wpList_load_it (by rfl) (.tmp 5) rfl w.heap.size 0 rfl y hX.out.it ?_
      | (go_at_call 25; refine (HMay.out _).mono ?_; rintro e w1 ⟨rfl, hw1⟩; have hbw1 := hbw.trans hw1; have hX1 : Hid (BoxAt w1 w.heap.size y) := hX.out.keep hw1))
    go_cut [30] from 15 to 30 (fun v wc => v = .bool (!bh) ∧ Bw w1 wc)
    case first =>
      rcases Nat.eq_zero_or_pos n with hn0 | hnp
      · subst hn0
        obtain rfl : bh = true := by
          have hl : L = [] := List.eq_nil_of_length_eq_zero hnn.out
          rw [← hbh.out, hl]; rfl
        go_quiet (fail)
        go_wp2_with fail
        go_meet
        case rel => exact ⟨rfl, Bw.drewN _ _⟩
      · obtain ⟨q, rfl⟩ : ∃ q, n = q + 1 := ⟨n - 1, by omega⟩
        obtain ⟨z, hz⟩ : ∃ z, Hid (L[q]? = some z) := ⟨_, List.getElem?_eq_getElem (by rw [hnn.out]; omega)⟩
        have hzm : Tr.mayE z.it = 0 := HMY.out z (List.mem_of_getElem? hz.out)
        have hzl := (Tr.may_len hzm).1
        have hbv := hbh.out
        rw [show Tr.its L = (Tr.its L).take (q + 1) by rw [List.take_of_length_le]; rw [Tr.its_len, hnn.out]; exact Nat.le_refl _, Tr.behind_take (Tr.its_at hz.out)] at hbv
        obtain ⟨cv, hcv⟩ : ∃ r, Hid (Nm.cmp z.it.path y.it.path = r) := ⟨_, rfl⟩
        have hcr := (Nm.cmp_facts z.it.path y.it.path y.it.path).1
        rw [hcv.out] at hbv hcr
        have hcm : Hid (∀ u, Calls Tryz.prog 40 #[.string (Nm.S z.it.path), .string (Nm.S y.it.path)] u fun e w' => e = .returned (.int .i64 cv) ∧ Bw u w') := fun u => by
          rw [← hcv.out]; exact ncompareL z.it.path y.it.path (by omega) (by omega) u
        have hne : decide (0 ≤ cv) = !bh := by
          rw [← hbv]
          by_cases h : cv = -1
          · subst h; rfl
          · rw [decide_eq_false h, decide_eq_true (by omega)]; rfl
        obtain ⟨b, off, e', hZ, -⟩ := (HA.out.keep hbw1).at hz.out
        subst e'
        have c1 := hZ.c0
        obtain ⟨c2, -, -, -, -, -⟩ := hX1.out.cells
        clear hZ hbv
        have r0 : (0 : Int) ≤ (q : Int) := Int.natCast_nonneg _
        have r1 : (q : Int) < ((q + 1 : Nat) : Int) := by omega
        have r2 : (0 : Int) < (q : Int) + 1 := by omega
        have r3 : (q : Int) < (q : Int) + 1 := by omega
        have r4 : IntKind.i64.wrap (((q + 1 : Nat) : Int) - 1) = (q : Int) := by rw [IntKind.wrap_i64]; omega
        have r5 : IntKind.i64.wrap (q : Int) = (q : Int) := by rw [IntKind.wrap_i64]; omega
        go_region_held3 (fun w' => w'.cell? ⟨b, off + q * 6, none⟩ = some (.string (Nm.S z.it.path)) ∧ w'.cell? ⟨w.heap.size, 0, none⟩ = some (.string (Nm.S y.it.path)) ∧ Bw w1 w')
          (first | exact ⟨c1, c2, Below.drew (Bw.refl _)⟩ | assumption | exact keep_S11 (by assumption) (by assumption))
          (first | (go_at_call 40; refine (hcm.out _).mono ?_; rintro e w2 ⟨rfl, hw2⟩))
        rename_i hSe
        have hSw := hSe.2.2
        go_wp2_with fail
        go_meet
        case rel => exact ⟨by first | rfl | rw [hne], hSw⟩
    case rest =>
      obtain ⟨rfl, hwc⟩ := hcut
      have hbc := hbw1.trans hwc
      obtain ⟨x0, x1, x2, x3, x4, x5⟩ := (hX1.out.keep hwc).cells
      have HX2 : Hid (BoxAt wc w.heap.size y) := hX1.out.keep hwc
      clear hwc
      have hst := HST.out
      rw [if_neg (by simp)] at hst
      cases bh with
      | false =>
        obtain rfl : R = 111 := hst
        go_wp2
        go_ret
        exact ⟨rfl, hbc⟩
      | true =>
      rw [if_neg (by decide)] at hst
      have HST2 : Hid _ := hst
      clear hst HST
      have HG2 : Hid (SetAt wc g m (Tr.fset (Tr.its L))) := HG.out.keep hbc
      obtain ⟨F, hF⟩ : ∃ F, Hid (F = Tr.fset (Tr.its L)) := ⟨_, rfl⟩
      rw [← hF.out] at HG2 hfo
      cases fo with
      | false =>
        obtain rfl : R = 112 := by have := HST2.out; rw [if_pos (HFE.out.2 rfl)] at this; exact this
        go_wp2_with (first
          | (go_at_call 41; refine (HUp.out _).mono ?_; rintro e w3 ⟨rfl, rfl⟩)
          | (refine wpList_look11 rfl (.tmp 32) (.tmp 35) rfl g m F up rfl HG2.out rfl hupl.out ?_; rw [hfo.out]))
        go_ret
        exact ⟨rfl, bw_alloc11 hbc _⟩
      | true =>
      have hst2 := HST2.out
      rw [if_neg (fun h => by have := HFE.out.1 h; cases this)] at hst2
      have HST3 : Hid _ := hst2
      clear hst2 HST2
      go_upto_region 9 with (first
        | (go_at_call 41; refine (HUp.out _).mono ?_; rintro e w3 ⟨rfl, rfl⟩)
        | (refine wpList_look11 rfl (.tmp 32) (.tmp 35) rfl g m F up rfl HG2.out rfl hupl.out ?_; rw [hfo.out]))
      obtain ⟨W5, hW5⟩ : ∃ V, V = w3.alloc (.cells #[] 67) := ⟨_, rfl⟩
      have hb5 : Bw w3 W5 := by rw [hW5]; exact bw_alloc11 (Bw.refl _) _
      rw [← hW5]
      clear hW5 x0 x1 x2 x3 x4 x5
      obtain ⟨x0, x1, x2, x3, x4, x5⟩ := (HX2.out.keep hb5).cells
      have hbd := hbc.trans hb5
      go_cut [50] from 41 to 50 (fun v wx => v = .bool (decide (y.it.kind = 3) && !b1) ∧ Bw w wx)
      case first =>
        by_cases hk : y.it.kind = 3
        · have q1 : ((y.it.kind : Int) == 3) = true := by rw [hk]; rfl
          have q2 : Hid ((decide (y.it.kind = 3) && !b1) = !b1) := by show _ = _; rw [decide_eq_true hk]; rfl
          clear hk
          go_wp2_with (go_at_call 42; refine (HHF.out _ hbd).mono ?_; rintro e w6 ⟨rfl, hw6⟩)
          go_meet
          case rel => exact ⟨by rw [q2.out], hbd.trans hw6⟩
        · have q1 : ((y.it.kind : Int) == 3) = false := by rw [beq_eq_false_iff_ne]; omega
          have q2 : Hid ((decide (y.it.kind = 3) && !b1) = false) := by show _ = _; rw [decide_eq_false hk]; rfl
          clear hk
          go_wp2_with fail
          go_meet
          case rel => exact ⟨by rw [q2.out], hbd⟩
      case rest =>
        obtain ⟨rfl, hbe⟩ := hcut
        obtain ⟨bH, hH⟩ : ∃ r, Hid ((decide (y.it.kind = 3) && !b1) = r) := ⟨_, rfl⟩
        rw [hH.out]
        cases bH with
        | true =>
          obtain rfl : R = 113 := by
            have := hH.out
            rw [Bool.and_eq_true, decide_eq_true_eq] at this
            have h := HST3.out
            rw [if_pos ⟨this.1, by simpa using this.2⟩] at h
            exact h
          go_wp2
          go_ret
          exact ⟨rfl, hbe⟩
        | false =>
          obtain rfl : R = 0 := by
            have h := HST3.out
            rw [if_neg (fun h => by
              have := hH.out
              rw [decide_eq_true h.1, h.2] at this
              cases this)] at h
            exact h
          go_wp2
          go_ret
          exact ⟨rfl, hbe⟩
  · have q1 : (em != 0) = true := Tr.i_no h0
    obtain rfl : R = em := by have := HST.out; rw [if_pos h0] at this; exact this
    clear h0 HST
    go_enter Tryz.func29, Tryz.ntmps29
    go_upto_region 1 with fail
    rw [← hW]
    clear hW
    go_wp2_with (first
      | refine wpList_load_it (by rfl) (.tmp 5) rfl w.heap.size 0 rfl y hX.out.it ?_
      | (go_at_call 25; refine (HMay.out _).mono ?_; rintro e w1 ⟨rfl, hw1⟩))
    go_ret
    exact ⟨rfl, hbw.trans hw1⟩
end Go.Proofs.YtldkhbkgmiicbabGreatDoor

/- The program's own Check, of layer 11, as landed at 97b3c5cd. -/
namespace Go.Proofs.YtldkhbkgmiicbabGreatDoor
open Go.RowKit Go.Deep
set_option linter.unusedVariables false
set_option linter.unusedSimpArgs false

theorem Tr.fset_snoc {t : List Tr.It} {i : Nat} {x : Tr.It} (h : t[i]? = some x) (k : Tr.B) : Tr.fset (t.take (i + 1)) k = (Tr.fset (t.take i) k || (decide (x.path = k) && decide (x.kind = 2))) := by
  unfold Tr.fset
  rw [Tr.take_snoc h, Tr.hasB_snoc, Bool.or_assoc]
theorem bw_of_bx11 {w u v : World} {g : Nat} (h : Bw w u) (k : Bx (· = g) u v) (hg : w.heap.size ≤ g) : Bw w v := Below.trans h (k.below h.size (fun b e => by rw [e]; exact hg))
theorem set_congr {w : World} {g n : Nat} {f h : Tr.B → Bool} (a : SetAt w g n f) (e : ∀ k, h k = f k) : SetAt w g n h := by
  obtain ⟨D, h1, h2, h3⟩ := a
  exact ⟨D, h1, h2, fun k => by rw [h3, e]⟩
theorem set_more {w : World} {g n m : Nat} {f : Tr.B → Bool} (a : SetAt w g n f) (h : n ≤ m) : SetAt w g m f := by
  obtain ⟨D, h1, h2, h3⟩ := a
  exact ⟨D, World.ownsMap.mono h1 h, h2, h3⟩

theorem keep_six11 {w1 w w' : World} {g : Nat} {v0 v1 v2 v3 v4 v5 : Value} (h : w.cell? ⟨g, 0, none⟩ = some v0 ∧ w.cell? ⟨g, 1, none⟩ = some v1 ∧ w.cell? ⟨g, 2, none⟩ = some v2 ∧ w.cell? ⟨g, 3, none⟩ = some v3 ∧ w.cell? ⟨g, 4, none⟩ = some v4 ∧ w.cell? ⟨g, 5, none⟩ = some v5 ∧ Bw w1 w) (k : Bw w w') :
    w'.cell? ⟨g, 0, none⟩ = some v0 ∧ w'.cell? ⟨g, 1, none⟩ = some v1 ∧ w'.cell? ⟨g, 2, none⟩ = some v2 ∧ w'.cell? ⟨g, 3, none⟩ = some v3 ∧ w'.cell? ⟨g, 4, none⟩ = some v4 ∧ w'.cell? ⟨g, 5, none⟩ = some v5 ∧ Bw w1 w' := by
  obtain ⟨h0, h1, h2, h3, h4, h5, h6⟩ := h
  exact ⟨keep_cell11 h0 k, keep_cell11 h1 k, keep_cell11 h2 k, keep_cell11 h3 k, keep_cell11 h4 k, keep_cell11 h5 k, h6.trans k⟩
theorem six_bw11 {w1 w : World} {g : Nat} {v0 v1 v2 v3 v4 v5 : Value} (h : w.cell? ⟨g, 0, none⟩ = some v0 ∧ w.cell? ⟨g, 1, none⟩ = some v1 ∧ w.cell? ⟨g, 2, none⟩ = some v2 ∧ w.cell? ⟨g, 3, none⟩ = some v3 ∧ w.cell? ⟨g, 4, none⟩ = some v4 ∧ w.cell? ⟨g, 5, none⟩ = some v5 ∧ Bw w1 w) : Bw w1 w := h.2.2.2.2.2.2
set_option maxRecDepth 100000 in
set_option maxHeartbeats 8000000 in
theorem tcheck_any (A : Option Addr) (cap : Nat) (L : List Tr.Iv) (hn : L.length ≤ 4611686018427387904) (hcap : L.length ≤ cap) (w : World) (ha : ItsAt w A L) :
    Calls Tryz.prog 22 #[.slice A L.length cap] w fun e w' => e = .returned (.tuple #[.int .i64 ((Tr.chkE (Tr.its L)).1 : Int), .int .i64 (Tr.chkE (Tr.its L)).2]) ∧ Bw w w' := by
  obtain ⟨rA, rE, hR⟩ : ∃ a b, Hid (Tr.chkE (Tr.its L) = (a, b)) := ⟨_, _, show Tr.chkE (Tr.its L) = _ from rfl⟩
  rw [hR.out]
  dsimp only
  obtain ⟨n, hnn⟩ : ∃ n, Hid (L.length = n) := ⟨_, rfl⟩
  rw [hnn.out] at hn hcap ⊢
  have HA : Hid (ItsAt w A L) := ha
  clear ha
  by_cases h256 : 256 < n
  · have hr := hR.out
    rw [Tr.chk_long (by rw [Tr.its_len, hnn.out]; exact h256), Prod.mk.injEq] at hr
    obtain ⟨rfl, rfl⟩ := hr
    have t1 : (256 : Int) < (n : Int) := by omega
    clear h256
    go_enter Tryz.func22, Tryz.ntmps22
    go_wp2
    go_ret2
    exact ⟨rfl, Bw.refl _⟩
  · have t1 : ¬ (256 : Int) < (n : Int) := by omega
    have HL : Hid ((Tr.its L).length ≤ 256) := by show _ ≤ _; rw [Tr.its_len, hnn.out]; omega
    have hn256 : n ≤ 256 := by omega
    clear h256
    obtain ⟨gm, hgm⟩ : ∃ g, Hid (w.heap.size = g) := ⟨_, rfl⟩
    have hmk : ∀ u : World, (Instr.makeMap 68 none).run Tryz.prog u = .ok (.map (some u.heap.size)) (u.alloc (.map #[] 0)) := fun u => run_makeMap _ u
    have HS0 := set_new w
    have HB0 : Bw w (w.alloc (.map #[] 0)) := bw_alloc11 (Bw.refl _) _
    obtain ⟨W0, hW0⟩ : ∃ V, V = w.alloc (.map #[] 0) := ⟨_, rfl⟩
    rw [← hW0] at HS0 HB0
    rw [hgm.out] at HS0
    go_enter Tryz.func22, Tryz.ntmps22
    go_upto_region 4 with (refine wpList_put11 rfl (.tmp 11) (.const (.string ⟨#[]⟩)) (.tmp 12) (.inr rfl) gm 0 (fun _ => false) [] (by first | rfl | (rw [← hgm.out]; rfl)) (by rw [← hW0]; exact HS0) (by omega) rfl rfl (by decide) ?_; intro W1 hS1 hX1)
    have hb1 : Bw w W1 := bw_of_bx11 (by rw [← hW0]; exact HB0) hX1 (by rw [← hgm.out]; exact Nat.le_refl _)
    have hS2 : SetAt W1 gm 1 (Tr.fset ((Tr.its L).take 0)) := set_congr hS1 (fun k => by unfold Tr.fset; rw [List.take_zero]; rfl)
    have HGM : Hid (w.heap.size ≤ gm) := by show _ ≤ _; rw [hgm.out]; exact Nat.le_refl _
    clear hX1 hS1 HS0 HB0 hW0
    rw [hgm.out]
    go_wp2
    go_loopw [16] (fun i wr => ∃ k : Nat, k ≤ n ∧ i = .int .i64 (k : Int) ∧ Hid (Tr.Okto (Tr.its L) k) ∧ Hid (SetAt wr gm (k + 1) (Tr.fset ((Tr.its L).take k))) ∧ Bw w wr) (fun i _ => n - (intOf i).toNat)
    case atStart => exact ⟨0, Nat.zero_le _, rfl, Tr.okto_zero _, hS2, hb1⟩
    case round =>
      clear hS2 hb1
      obtain ⟨i, hi, rfl, hok, hset, hbw⟩ := hrel
      have i0 : (0 : Int) ≤ (i : Int) := Int.natCast_nonneg _
      by_cases hlt : i < n
      · have i1 : (i : Int) < (n : Int) := by omega
        obtain ⟨y, hy⟩ : ∃ y, Hid (L[i]? = some y) := ⟨_, List.getElem?_eq_getElem (by rw [hnn.out]; exact hlt)⟩
        have HIy : Hid ((Tr.its L)[i]? = some y.it) := Tr.its_at hy.out
        have HFit : Hid (Tr.Fit y.it) := Tr.fit_in HA.out hy.out
        obtain ⟨b, off, rfl, hY, -⟩ := (HA.out.keep hbw).at hy.out
        have HY : Hid (ItAt wr b (off + i * 6) y) := hY
        clear hY
        obtain ⟨es, hes⟩ : ∃ r, Hid (Tr.stepE ((Tr.its L).take i) y.it = r) := ⟨_, rfl⟩
        have hlen : (L.take i).length = i := by rw [List.length_take, hnn.out]; omega
        have HFol : Hid (∀ u m, Bw w u → SetAt u gm m (Tr.fset ((Tr.its L).take i)) → Calls Tryz.prog 29 #[.slice (some ⟨b, off, none⟩) i cap, .map (some gm), .agg #[.string (Nm.S y.it.path), .int .u8 (y.it.kind : Int), .int .i64 y.it.mode, .int .i64 y.it.time, .slice y.ad y.it.body.length y.cp, .string (Nm.S y.it.to)]] u fun e w' => e = .returned (.int .i64 es) ∧ Bw u w') := fun u m hu hs => by
          have hT := Tr.okto_take hok.out
          have := follow1_any (some ⟨b, off, none⟩) cap gm m (L.take i) y (by rw [hlen]; omega) (by rw [Tr.its_take]; exact Tr.ok_srt hT) (fun z hz => by
            obtain ⟨j, hj⟩ := List.getElem?_of_mem hz
            have h2 := Tr.its_at hj
            rw [Tr.its_take] at h2
            exact Tr.step_may (hT j z.it h2)) HFit.out u ((HA.out.keep hu).take i) (by rw [Tr.its_take]; exact hs)
          rw [hlen, Tr.its_take, hes.out] at this
          exact this
        clear hlen
        have hicap : (i : Int) ≤ (cap : Int) := by omega
        go_upto_region 7 with (first
          | refine wpList_load_it (by rfl) (.tmp 19) rfl b (off + i * 6) rfl y HY.out ?_
          | (refine wpList_store_row rfl 26 _ _ rfl wr.heap.size y.arr rfl rfl 26 _ (heap_alloc_new _ _) (info_it y) rfl (Tr.arr_one y) ?_; rw [setRow_alloc_new]; obtain ⟨W1, hW1⟩ : ∃ V, V = wr.alloc (.cells y.arr 26) := ⟨_, rfl⟩; have hX1 : BoxAt W1 wr.heap.size y := (by rw [hW1]; exact BoxAt.new _ _); have hb1 : Bw wr W1 := (by rw [hW1]; exact bw_alloc11 (Bw.refl _) _); rw [← hW1]; clear hW1; have HS1 : Hid (SetAt W1 gm (i + 1) (Tr.fset ((Tr.its L).take i))) := hset.out.keep hb1; have hbw1 := hbw.trans hb1; obtain ⟨x0, x1, x2, x3, x4, x5⟩ := hX1.cells))
        rw [put_none11]
        go_cut [7] from 21 to 26 (fun v wc => v = .int .i64 es ∧ Bw W1 wc)
        case first =>
          go_region_held3 (fun w' => w'.cell? ⟨wr.heap.size, 0, none⟩ = some (.string (Nm.S y.it.path)) ∧ w'.cell? ⟨wr.heap.size, 1, none⟩ = some (.int .u8 (y.it.kind : Int)) ∧ w'.cell? ⟨wr.heap.size, 2, none⟩ = some (.int .i64 y.it.mode) ∧ w'.cell? ⟨wr.heap.size, 3, none⟩ = some (.int .i64 y.it.time) ∧ w'.cell? ⟨wr.heap.size, 4, none⟩ = some (.slice y.ad y.it.body.length y.cp) ∧ w'.cell? ⟨wr.heap.size, 5, none⟩ = some (.string (Nm.S y.it.to)) ∧ Bw W1 w')
            (first | exact ⟨x0, x1, x2, x3, x4, x5, Below.drew (Bw.refl _)⟩ | assumption | exact keep_six11 (by assumption) (by assumption))
            (first | (go_at_call 29; refine (HFol.out _ (i + 1) (hbw1.trans (by first | assumption | exact six_bw11 (by assumption))) (HS1.out.keep (by first | assumption | exact six_bw11 (by assumption)))).mono ?_; rintro e w5 ⟨rfl, hw5⟩))
          rename_i hSe
          have hSw := hSe.2.2.2.2.2.2
          go_wp2_with fail
          go_meet
          case rel => exact ⟨rfl, hSw⟩
        case rest =>
          obtain ⟨rfl, hwc⟩ := hcut
          obtain ⟨x0', x1', -, -, -, -⟩ := (hX1.keep hwc).cells
          have hbc := hbw1.trans hwc
          have HSc : Hid (SetAt wc gm (i + 1) (Tr.fset ((Tr.its L).take i))) := HS1.out.keep hwc
          clear x0 x1 x2 x3 x4 x5 hX1 hwc
          by_cases h0 : es = 0
          · subst h0
            have nx : Hid (Tr.Okto (Tr.its L) (i + 1)) := Tr.okto_succ hok.out HIy.out hes.out
            have hpl : y.it.path.length ≤ 140737488355328 := by have := HFit.out.path; omega
            by_cases hk : y.it.kind = 2
            · have q1 : ((y.it.kind : Int) == 2) = true := by rw [hk]; rfl
              have HK : Hid (y.it.kind = 2) := hk
              clear hk
              go_wp2_with (refine wpList_put11 rfl (.tmp 34) (.tmp 36) (.tmp 37) (.inl rfl) gm (i + 1) _ y.it.path rfl HSc.out (by omega) rfl rfl hpl ?_; intro W6 hS6 hX6)
              go_roundw
              case rel => exact ⟨i + 1, by omega, by go_num, nx, set_congr hS6 (fun k => by rw [Tr.fset_snoc HIy.out, decide_eq_true HK.out, Bool.and_true, Bool.or_comm]; congr 1; rw [decide_eq_decide]; exact eq_comm), bw_of_bx11 hbc hX6 HGM.out⟩
              case measure => simp [intOf]; omega
            · have q1 : ((y.it.kind : Int) == 2) = false := by rw [beq_eq_false_iff_ne]; omega
              have HK : Hid (y.it.kind ≠ 2) := hk
              clear hk
              go_wp2
              go_roundw
              case rel => exact ⟨i + 1, by omega, by go_num, nx, set_congr (set_more HSc.out (by omega)) (fun k => by rw [Tr.fset_snoc HIy.out, decide_eq_false HK.out, Bool.and_false, Bool.or_false]), hbc⟩
              case measure => simp [intOf]; omega
          · have hr := hR.out
            rw [Tr.chk_bad HL.out hok.out HIy.out (by rw [hes.out]; exact h0), hes.out, Prod.mk.injEq] at hr
            obtain ⟨rfl, rfl⟩ := hr
            have q1 := Tr.i_no h0
            clear h0
            go_wp2
            go_ret2
            exact ⟨rfl, hbc⟩
      · have ei : i = n := by omega
        subst ei
        have hr := hR.out
        rw [Tr.chk_good HL.out (Tr.okto_all (by rw [Tr.its_len, hnn.out]; exact hok.out)), Prod.mk.injEq] at hr
        obtain ⟨rfl, rfl⟩ := hr
        go_wp2
        go_ret2
        exact ⟨rfl, hbw⟩
end Go.Proofs.YtldkhbkgmiicbabGreatDoor

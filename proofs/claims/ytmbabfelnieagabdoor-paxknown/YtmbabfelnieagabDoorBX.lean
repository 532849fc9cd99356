/- The program's own Over, first part: the map of both lists. -/
import Derived.Test.YtmbabfelnieagabDoorBV
import Derived.Maps.Views
import Derived.Maps.OwnSet
import Derived.Carry
import Derived.StringKeys
namespace Go.Proofs.YtmbabfelnieagabDoor
set_option linter.unusedVariables false
namespace Px
theorem before_less : ∀ a b : B, bytesBefore a b = Nm.less a b
  | [], [] => rfl
  | [], _ :: _ => rfl
  | _ :: _, [] => rfl
  | a :: x, b :: y => by
    show (decide (a < b) || (a == b && bytesBefore x y)) = _
    rw [before_less x y]
    rfl
/-- a pair as an entry -/
def ent (p : Pr) : Lit × DataW Unit := (.string p.1, .agg [.lit (.string p.1), .lit (.string p.2)])
def encD (l : List Pr) : DataW Unit := .map (l.map ent)
theorem ent_before (p q : Pr) : (ent p).1.before (ent q).1 = Nm.less p.1 q.1 := before_less _ _
theorem ent_same (p : Pr) (k : B) : (ent p).1.sameKey (.string k) = (p.1 == k) := rfl
theorem filter_none {k : B} : ∀ (l : List Pr), (∀ q ∈ l, q.1 ≠ k) → (l.map ent).filter (fun x => !x.1.sameKey (.string k)) = l.map ent
  | [], _ => rfl
  | q :: l, h => by
    rw [List.map_cons, List.filter_cons, ent_same, beq_eq_false_iff_ne.2 (h q List.mem_cons_self)]
    rw [filter_none l (fun x hx => h x (List.mem_cons_of_mem _ hx))]
    rfl
theorem less_ne {a b : B} (h : Nm.less a b = true) : a ≠ b := fun e => by rw [e, Nm.less_irr] at h; cases h
theorem insert_front {p : Pr} {l : List Pr} (h : ∀ q ∈ l, Nm.less p.1 q.1 = true) : DataW.insert (ent p) (l.map ent) = (p :: l).map ent := by
  cases l with
  | nil => rfl
  | cons q l =>
    rw [List.map_cons, DataW.insert, ent_before, h q List.mem_cons_self]
    rfl
theorem put_ins : ∀ (l : List Pr) (p : Pr), Srt l → DataW.insert (ent p) ((l.map ent).filter (fun x => !x.1.sameKey (.string p.1))) = (over l [p]).map ent
  | [], p, _ => by rw [over_nil_l]; rfl
  | a :: l, p, hs => by
    have hl := (List.pairwise_cons.1 hs).2
    have ha := (List.pairwise_cons.1 hs).1
    rcases three a.1 p.1 with h | h | h
    · rw [over_less _ _ h, List.map_cons, List.filter_cons, ent_same, beq_eq_false_iff_ne.2 (less_ne h)]
      show DataW.insert (ent p) (ent a :: _) = _
      rw [DataW.insert, ent_before, Nm.less_asym h, if_neg Bool.false_ne_true, put_ins l p hl]
      rfl
    · rw [over_same _ _ h, over_nil_r, List.map_cons, List.filter_cons, ent_same, beq_iff_eq.2 h]
      show DataW.insert (ent p) ((l.map ent).filter _) = _
      have hlt : ∀ q ∈ l, Nm.less p.1 q.1 = true := fun q hq => by rw [← h]; exact ha q hq
      rw [filter_none l (fun q hq e => less_ne (hlt q hq) e.symm), insert_front hlt]
    · rw [over_more _ _ h, over_nil_r]
      have hlt : ∀ q ∈ a :: l, Nm.less p.1 q.1 = true := fun q hq => by
        rcases List.mem_cons.1 hq with rfl | hq
        · exact h
        · exact Nm.less_trans _ _ _ h (ha q hq)
      rw [filter_none (a :: l) (fun q hq e => less_ne (hlt q hq) e.symm), insert_front hlt]
theorem enc_put {l : List Pr} (p : Pr) (hs : Srt l) : (encD l).put (.string p.1) (ent p).2 = encD (over l [p]) := by
  unfold encD
  rw [← put_ins l p hs]
  rfl
theorem srt_take {l : List Pr} (h : Srt l) (k : Nat) : Srt (l.take k) := List.Pairwise.sublist (List.take_sublist k l) h
theorem srt_one (p : Pr) : Srt [p] := List.pairwise_singleton _ _
theorem take_over {m : List Pr} (hm : Srt m) {k : Nat} {p : Pr} (hp : m[k]? = some p) : over (m.take k) [p] = m.take (k + 1) := by
  refine srt_ext _ _ (overs_srt (srt_take hm k) (srt_one p)) (srt_take hm (k + 1)) (fun q => ?_)
  have hs := srt_take hm (k + 1)
  have e : m.take (k + 1) = m.take k ++ [p] := by rw [List.take_add_one, hp]; rfl
  rw [overs_find (srt_take hm k) (srt_one p), e]
  rw [e] at hs
  have hall := (List.pairwise_append.1 hs).2.2
  have fa : ∀ (x : List Pr), (∀ y ∈ x, Nm.less y.1 p.1 = true) → find (x ++ [p]) q = (find [p] q).or (find x q) := by
    intro x
    induction x with
    | nil => intro _; cases h : find [p] q <;> simp [find, h]
    | cons y x ih =>
      intro hx
      have h1 := ih (fun z hz => hx z (List.mem_cons_of_mem _ hz))
      have hy := less_ne (hx y List.mem_cons_self)
      by_cases hq : y.1 = q
      · have hpq : find [p] q = none := find_none (fun z hz => by rw [List.mem_singleton.1 hz]; intro e2; exact hy (hq.trans e2.symm))
        rw [List.cons_append, hpq, Option.none_or]
        unfold find
        rw [if_pos hq, if_pos hq]
      · rw [List.cons_append]
        simp only [find, if_neg hq]
        exact h1
  exact (fa _ (fun y hy => hall y hy p (List.mem_singleton.2 rfl))).symm
theorem over_step {l m : List Pr} (hl : Srt l) (hm : Srt m) {k : Nat} {p : Pr} (hp : m[k]? = some p) : over (over l (m.take k)) [p] = over l (m.take (k + 1)) := by
  rw [over_assoc hl (srt_take hm k) (srt_one p), take_over hm hp]
end Px
end Go.Proofs.YtmbabfelnieagabDoor
namespace Go.Proofs.YtmbabfelnieagabDoor
open Go.RowKit Go.Deep
set_option linter.unusedVariables false
set_option linter.unusedSimpArgs false

/-- how a pair reads as a map's element -/
def pairElem (v : Value) : Option (DataW Unit × List MemPlace) := match v with
  | .agg cs => (match cs.toList with
    | [.string a, .string b] => some (.agg [.lit (.string a.data.toList), .lit (.string b.data.toList)], [])
    | _ => none)
  | _ => none
theorem pairElem_mk (p : Px.Pr) : pairElem (.agg #[.string (Nm.S p.1), .string (Nm.S p.2)]) = some ((Px.ent p).2, []) := rfl
/-- a map of these pairs -/
def MapAt (w : World) (g n : Nat) (l : List Px.Pr) : Prop := w.ownsMap Tryd.prog 9 pairElem g n (Px.encD l)
theorem MapAt.keepb {w w' : World} {g n B : Nat} {l : List Px.Pr} (h : MapAt w g n l) (k : Below B w w') (hg : g < B) : MapAt w' g n l := by
  obtain ⟨es, clock, hb, F, hs, hD⟩ := h
  exact ⟨es, clock, (k.block g hg).trans hb, F, hs, hD⟩
theorem MapAt.lt {w : World} {g n : Nat} {l : List Px.Pr} (h : MapAt w g n l) : g < w.heap.size := World.ownsMap.lt h
theorem MapAt.bd {w : World} {g n m : Nat} {l : List Px.Pr} (h : MapAt w g n l) (hm : n ≤ m) : MapAt w g m l := World.ownsMap.mono h hm
theorem map_new (w : World) : MapAt (w.alloc (.map #[] 0)) w.heap.size 0 [] := World.ownsMap_made w Tryd.prog 9 pairElem
theorem MapAt.len {w : World} {g n : Nat} {l : List Px.Pr} (h : MapAt w g n l) (ty : TypeId) : (Builtin.len_ #[51] ty #[.map (some g)]).run Tryd.prog w = .ok (.int .i64 ((l.length : Nat) : Int)) w := by
  have := World.ownsMap.len (t := 51) (e := 23) h Tryd.underlying51 ty
  rw [this]
  show Result.ok (Value.int .i64 (((l.map Px.ent).length : Nat) : Int)) w = _
  rw [List.length_map]
/-- a pair into the map -/
theorem wpList_lay9 {w : World} {ops : Array Oper} {rest : List Oper} {o : Oper} {a : Act} {Q : Exit → Act → World → Prop} (hgd : o.guard = none) (m x v : Operand) (hop : o.op = Op.mapUpdate 51 m x v)
    (g n : Nat) (l : List Px.Pr) (p : Px.Pr) (hs : Px.Srt l) (hm : a.eval m = .map (some g)) (h : MapAt w g n l) (hn : n ≤ 1000000) (hx : a.eval x = .string (Nm.S p.1)) (hv : a.eval v = .agg #[.string (Nm.S p.1), .string (Nm.S p.2)]) (hp : p.1.length ≤ 140737488355328)
    (hK : ∀ w', MapAt w' g (n + 1) (Px.over l [p]) → Bx (· = g) w w' → wpList Tryd.prog ops Q rest (a.put o.dst undef) w') : wpList Tryd.prog ops Q (o :: rest) a w := by
  have hkey : keyOf Tryd.prog 9 (.string (Nm.S p.1)) = some (.string p.1) := WideMaps.keyOf_string_mk Tryd.underlying9 (s := Nm.S p.1) (by rw [Nm.size_S]; unfold maxLen; omega)
  refine wpList_mapUpdate_own w hgd m x v _ hop 9 23 (Maps.string_keyed Tryd.underlying9) Tryd.underlying51 pairElem g n (Px.encD l) hm h (by unfold maxLen; omega) _ _ (.string p.1) hx hv hkey (Px.ent p).2 [] (pairElem_mk p) ?_
  intro w' h1 h2
  rw [Px.enc_put p hs] at h1
  exact hK w' h1 ⟨h2.os, h2.tape, h2.output, h2.size, fun b hb hne => h2.block b hb (fun e => hne (by cases e; rfl))⟩
/-- what Over answers -/
def OverOwn (L M : List Px.Pr) (base : Nat) (e : Ending) (w' : World) : Prop := ∃ v, e = .returned (.tuple #[v, .int .i64 ((Px.overF L M).2 : Int)]) ∧ w'.ownsRow base 23 2 v (Px.overF L M).1.length (Px.cellsPr (Px.overF L M).1)
/-- what is to be shown of maps.Values and slices.SortedFunc -/
structure SortSpec : Prop where
  vals : ∀ (W : World) (g : Nat), Calls Tryd.prog 23 #[.map (some g)] W fun e w' => e = .returned (.func (.func 36) #[] #[.pointer (some ⟨W.heap.size, 0, none⟩)]) ∧ w' = W.alloc (.cells #[.map (some g)] 51)
  sorted : ∀ (W : World) (g bx n : Nat) (l : List Px.Pr), MapAt W g n l → VarAt W bx 51 (.map (some g)) → g ≠ bx → Px.Srt l → l.length ≤ 64 → (∀ p ∈ l, p.1.length ≤ 140737488355328) →
    Calls Tryd.prog 22 #[.func (.func 36) #[] #[.pointer (some ⟨bx, 0, none⟩)], .func (.func 24) #[] #[]] W fun e w' => ∃ v, e = .returned v ∧ w'.ownsRow W.heap.size 23 2 v l.length (Px.cellsPr l) ∧ Bw W w'
set_option maxRecDepth 100000 in
set_option maxHeartbeats 4000000 in
theorem pover_own (SP : SortSpec) (A B : Option Addr) (ca cb : Nat) (L M : List Px.Pr) (hn : L.length ≤ 4611686018427387904) (hm : M.length ≤ 4611686018427387904) (hca : L.length ≤ ca) (hcb : M.length ≤ cb) (hSL : ∀ p ∈ L, p.1.length ≤ 140737488355328 ∧ p.2.length ≤ 140737488355328) (hSM : ∀ p ∈ M, p.1.length ≤ 140737488355328 ∧ p.2.length ≤ 140737488355328) (w : World) (hk : KAt w) (ha : PrsAt w A L) (hb : PrsAt w B M) :
    Calls Tryd.prog 11 #[.slice A L.length ca, .slice B M.length cb] w fun e w' => OverOwn L M w.heap.size e w' ∧ Bw w w' := by
  obtain ⟨lo, hlow⟩ : ∃ lo, Hid (w.heap.size = lo) := ⟨_, rfl⟩
  have hs0 : Px.Srt [] := List.Pairwise.nil
  have HSL : Hid (∀ p ∈ L, p.1.length ≤ 140737488355328 ∧ p.2.length ≤ 140737488355328) := hSL
  have HSM : Hid (∀ p ∈ M, p.1.length ≤ 140737488355328 ∧ p.2.length ≤ 140737488355328) := hSM
  obtain ⟨W1, hW1⟩ : ∃ W, Hid (w.alloc (.map #[] 0) = W) := ⟨_, rfl⟩
  obtain ⟨W, hW⟩ : ∃ W, Hid (W1.alloc (.cells #[.slice A L.length ca, .slice B M.length cb] 32) = W) := ⟨_, rfl⟩
  have hb1 : Bw w W1 := by rw [← hW1.out]; exact Below.alloc (Below.refl _ _) (Nat.le_refl _) _
  have hb2 : Bw W1 W := by rw [← hW.out]; exact Below.alloc (Below.refl _ _) (Nat.le_refl _) _
  have hWlo : Bw w W := hb1.trans hb2
  have s1 : Hid (W1.heap.size = w.heap.size + 1) := by show _ = _; rw [← hW1.out]; exact alloc_size9 _ _
  have hmap0 : MapAt W w.heap.size 0 [] := by
    have h := map_new w
    rw [hW1.out] at h
    exact h.keepb hb2 h.lt
  have GLX : W.heap[w.heap.size + 1]? = some (.cells #[.slice A L.length ca, .slice B M.length cb] 32 (0, 0)) := by rw [← hW.out, ← s1.out]; exact World.alloc_heap_new _ _
  have hlo : lo ≤ W.heap.size := by rw [← hlow.out]; exact hWlo.size
  have HPL : Hid (∀ u, Below lo W u → PrsAt u A L) := fun u h => (ha.keep hWlo).keepb h (by rw [← hlow.out]; exact prs_lt ha)
  have HPM : Hid (∀ u, Below lo W u → PrsAt u B M) := fun u h => (hb.keep hWlo).keepb h (by rw [← hlow.out]; exact prs_lt hb)
  have HPutL : Hid (∀ u, Below lo W u → Calls Tryd.prog 12 #[.slice A L.length ca] u fun e w' => PutSays L e w' ∧ Bw u w') := fun u h => pput_any A ca L hn hca hSL u (hk.keep (Below.trans hWlo (by rw [hlow.out]; exact h))) (HPL.out u h)
  have HPutM : Hid (∀ u, Below lo W u → Calls Tryd.prog 12 #[.slice B M.length cb] u fun e w' => PutSays M e w' ∧ Bw u w') := fun u h => pput_any B cb M hm hcb hSM u (hk.keep (Below.trans hWlo (by rw [hlow.out]; exact h))) (HPM.out u h)
  unfold PutSays at HPutL HPutM
  obtain ⟨n, hn'⟩ : ∃ n, Hid (L.length = n) := ⟨_, rfl⟩
  obtain ⟨m, hm'⟩ : ∃ m, Hid (M.length = m) := ⟨_, rfl⟩
  rw [hn'.out] at hn hca HPutL GLX ⊢
  rw [hm'.out] at hm hcb HPutM GLX ⊢
  rw [hn'.out, hm'.out] at hW
  have HW : Hid (∀ u, Below lo W u → Bw w u) := fun u h => Below.trans hWlo (by rw [hlow.out]; exact h)
  obtain ⟨gm, hgm⟩ : ∃ g, Hid (w.heap.size = g) := ⟨_, rfl⟩
  have hlm : lo ≤ gm := by rw [← hlow.out, ← hgm.out]; exact Nat.le_refl _
  rw [hgm.out] at hmap0
  have GL : Hid (∀ u, Bx (· = gm) W u → u.heap[gm + 1]? = some (.cells #[.slice A n ca, .slice B m cb] 32 (0, 0))) := fun u h => by
    rw [hgm.out] at GLX
    exact (h.block (gm + 1) (Array.getElem?_eq_some_iff.1 GLX).1 (by omega)).trans GLX
  clear GLX ha hb hSL hSM hk
  go_enter Tryd.func11, Tryd.ntmps11
  have hmk : ∀ u : World, (Instr.makeMap 51 none).run Tryd.prog u = .ok (.map (some u.heap.size)) (u.alloc (.map #[] 0)) := fun u => run_makeMap _ u
  go_wp2
  rw [hW1.out, hW.out, hgm.out]
  go_loopw [19] (fun iv wx => ∃ q : Nat, q ≤ 2 ∧ iv = .int .i64 (q : Int) ∧ (q = 0 ∧ MapAt wx gm 64 [] ∨ q = 1 ∧ Hid ((Px.putF L).2.2 = 0) ∧ MapAt wx gm 128 (Px.over [] L) ∨ q = 2 ∧ Hid ((Px.putF L).2.2 = 0) ∧ Hid ((Px.putF M).2.2 = 0) ∧ MapAt wx gm 192 (Px.over L M)) ∧ Bx (· = gm) W wx) (fun iv _ => 2 - (intOf iv).toNat)
  case atStart => exact ⟨0, by omega, rfl, .inl ⟨rfl, hmap0.bd (by omega)⟩, Bx.refl _ _⟩
  case round =>
    obtain ⟨q, hq, rfl, hcase, hbx⟩ := hrel
    rename World => wo
    rcases hcase with ⟨rfl, hmap⟩ | ⟨rfl, hpL, hmap⟩ | ⟨rfl, hpL, hpM, hmap⟩
    · have gx := GL.out wo hbx
      have hcx := cell_of_row wo _ 0 _ _ _ gx
      have q0 : (((0 : Nat) : Int)) < 2 := by decide
      obtain ⟨r, i, er, hR⟩ : ∃ r i er, Hid (Px.putF L = (r, i, er)) := ⟨_, _, _, show Px.putF L = _ from rfl⟩
      have hPut := HPutL.out wo (hbx.below hlo (fun b hb => by rw [hb]; exact hlm))
      rw [hR.out] at hPut
      dsimp only at hPut
      by_cases h0 : er = 0
      · have HOK : Hid ((Px.putF L).2.2 = 0) := by show _ = _; rw [hR.out]; exact h0
        have e0 : ((er : Int) != 0) = false := by rw [bne_eq_false_iff_eq]; omega
        have hok := (Px.put_ok L).1 HOK.out
        have hsX : Hid (Px.Srt L) := hok.2.2
        have h64 : n ≤ 64 := by rw [← hn'.out]; exact hok.1
        clear h0 hok
        go_wp2_with (go_at_call 12; refine hPut.mono ?_; rintro e x1 ⟨⟨v, rfl, hv⟩, hx1⟩; obtain ⟨Av, cv, rfl, -, -⟩ := hv)
        go_loopw [34] (fun jv wx => ∃ k : Nat, k ≤ n ∧ jv = .int .i64 (k : Int) ∧ MapAt wx gm (64 + k + 0 * 64) (Px.over [] (L.take k)) ∧ Bx (· = gm) W wx) (fun jv _ => n - (intOf jv).toNat)
        case atStart => exact ⟨0, Nat.zero_le _, rfl, by rw [List.take_zero, Px.over_nil_r]; exact (hmap.keepb hx1 hmap.lt).bd (by omega), hbx.trans (Bx.of_bw hx1)⟩
        case round =>
          obtain ⟨k, hk1, rfl, hm1, hb1⟩ := hrel
          have k0 : (0 : Int) ≤ (k : Int) := Int.natCast_nonneg _
          have hlo1 : Below lo W wr := hb1.below hlo (fun b hb => by rw [hb]; exact hlm)
          by_cases hlt : k < n
          · have k1 : (k : Int) < (n : Int) := by omega
            obtain ⟨p, hp⟩ : ∃ p, Hid (L[k]? = some p) := ⟨_, List.getElem?_eq_getElem (by rw [hn'.out]; exact hlt)⟩
            obtain ⟨b, off, rfl, hc⟩ := (HPL.out wr hlo1).at (by rw [hn'.out]; omega)
            obtain ⟨c1, c2⟩ := hc k p hp.out
            have hsp := HSL.out p (List.mem_of_getElem? hp.out)
            have hst := Px.over_step hs0 hsX.out hp.out
            clear hc
            have hal : Bw wr (wr.alloc (.cells #[.string (Nm.S p.1), .string (Nm.S p.2)] 23)) := Below.alloc (Below.refl _ _) (Nat.le_refl _) _
            have hm2 := hm1.keepb hal hm1.lt
            go_wp2_with (at_mapUpdate; refine wpList_lay9 (by rfl) _ _ _ (by rfl) gm _ _ p (Px.overs_srt hs0 (Px.srt_take hsX.out k)) (by rfl) hm2 (by omega) (by rfl) (by rfl) hsp.1 ?_; intro w4 hm4 hb4; rw [hst] at hm4)
            go_roundw
            case rel => exact ⟨k + 1, by omega, by go_num, hm4.bd (by omega), (hb1.trans (Bx.of_bw hal)).trans hb4⟩
            case measure => simp [intOf]; omega
          · have hke : k = n := by omega
            subst hke
            have hT : L.take k = L := by rw [← hn'.out, List.take_length]
            rw [hT] at hm1
            go_wp2
            go_roundw
            case rel => exact ⟨1, by omega, by go_num, .inr (.inl ⟨rfl, HOK, hm1.bd (by omega)⟩), hb1⟩
            case measure => simp [intOf]
      · have e0 : ((er : Int) != 0) = true := by rw [bne_iff_ne]; omega
        have hE : Hid (Px.overF L M = ([], er)) := by
          show _ = _
          unfold Px.overF
          rw [if_pos (by rw [hR.out]; exact h0), hR.out]
        go_wp2_with (go_at_call 12; refine hPut.mono ?_; rintro e x1 ⟨⟨v, rfl, hv⟩, hx1⟩; obtain ⟨Av, cv, rfl, -, -⟩ := hv)
        go_ret2
        exact ⟨⟨_, by rw [hE.out]; rfl, by rw [hE.out]; exact World.ownsRow_nil _ _ _ _⟩, HW.out _ (Below.trans (hbx.below hlo (fun b hb => by rw [hb]; exact hlm)) (hx1.mono (Nat.le_trans hlo hbx.size)))⟩
    · have gx := GL.out wo hbx
      have hcx := cell_of_row wo _ 1 _ _ _ gx
      have hsL : Px.Srt L := ((Px.put_ok L).1 hpL.out).2.2
      rw [Px.over_nil_l] at hmap
      obtain ⟨r, i, er, hR⟩ : ∃ r i er, Hid (Px.putF M = (r, i, er)) := ⟨_, _, _, show Px.putF M = _ from rfl⟩
      have hPut := HPutM.out wo (hbx.below hlo (fun b hb => by rw [hb]; exact hlm))
      rw [hR.out] at hPut
      dsimp only at hPut
      by_cases h0 : er = 0
      · have HOK : Hid ((Px.putF M).2.2 = 0) := by show _ = _; rw [hR.out]; exact h0
        have e0 : ((er : Int) != 0) = false := by rw [bne_eq_false_iff_eq]; omega
        have hok := (Px.put_ok M).1 HOK.out
        have hsX : Hid (Px.Srt M) := hok.2.2
        have h64 : m ≤ 64 := by rw [← hm'.out]; exact hok.1
        clear h0 hok
        go_wp2_with (go_at_call 12; refine hPut.mono ?_; rintro e x1 ⟨⟨v, rfl, hv⟩, hx1⟩; obtain ⟨Av, cv, rfl, -, -⟩ := hv)
        go_loopw [34] (fun jv wx => ∃ k : Nat, k ≤ m ∧ jv = .int .i64 (k : Int) ∧ MapAt wx gm (64 + k + 1 * 64) (Px.over L (M.take k)) ∧ Bx (· = gm) W wx) (fun jv _ => m - (intOf jv).toNat)
        case atStart => exact ⟨0, Nat.zero_le _, rfl, by rw [List.take_zero, Px.over_nil_r]; exact (hmap.keepb hx1 hmap.lt).bd (by omega), hbx.trans (Bx.of_bw hx1)⟩
        case round =>
          obtain ⟨k, hk1, rfl, hm1, hb1⟩ := hrel
          have k0 : (0 : Int) ≤ (k : Int) := Int.natCast_nonneg _
          have hlo1 : Below lo W wr := hb1.below hlo (fun b hb => by rw [hb]; exact hlm)
          by_cases hlt : k < m
          · have k1 : (k : Int) < (m : Int) := by omega
            obtain ⟨p, hp⟩ : ∃ p, Hid (M[k]? = some p) := ⟨_, List.getElem?_eq_getElem (by rw [hm'.out]; exact hlt)⟩
            obtain ⟨b, off, rfl, hc⟩ := (HPM.out wr hlo1).at (by rw [hm'.out]; omega)
            obtain ⟨c1, c2⟩ := hc k p hp.out
            have hsp := HSM.out p (List.mem_of_getElem? hp.out)
            have hst := Px.over_step hsL hsX.out hp.out
            clear hc
            have hal : Bw wr (wr.alloc (.cells #[.string (Nm.S p.1), .string (Nm.S p.2)] 23)) := Below.alloc (Below.refl _ _) (Nat.le_refl _) _
            have hm2 := hm1.keepb hal hm1.lt
            go_wp2_with (at_mapUpdate; refine wpList_lay9 (by rfl) _ _ _ (by rfl) gm _ _ p (Px.overs_srt hsL (Px.srt_take hsX.out k)) (by rfl) hm2 (by omega) (by rfl) (by rfl) hsp.1 ?_; intro w4 hm4 hb4; rw [hst] at hm4)
            go_roundw
            case rel => exact ⟨k + 1, by omega, by go_num, hm4.bd (by omega), (hb1.trans (Bx.of_bw hal)).trans hb4⟩
            case measure => simp [intOf]; omega
          · have hke : k = m := by omega
            subst hke
            have hT : M.take k = M := by rw [← hm'.out, List.take_length]
            rw [hT] at hm1
            go_wp2
            go_roundw
            case rel => exact ⟨2, by omega, by go_num, .inr (.inr ⟨rfl, hpL, HOK, hm1.bd (by omega)⟩), hb1⟩
            case measure => simp [intOf]
      · have e0 : ((er : Int) != 0) = true := by rw [bne_iff_ne]; omega
        have hE : Hid (Px.overF L M = ([], er)) := by
          show _ = _
          unfold Px.overF
          rw [if_neg (fun h => h hpL.out), if_pos (by rw [hR.out]; exact h0), hR.out]
        go_wp2_with (go_at_call 12; refine hPut.mono ?_; rintro e x1 ⟨⟨v, rfl, hv⟩, hx1⟩; obtain ⟨Av, cv, rfl, -, -⟩ := hv)
        go_ret2
        exact ⟨⟨_, by rw [hE.out]; rfl, by rw [hE.out]; exact World.ownsRow_nil _ _ _ _⟩, HW.out _ (Below.trans (hbx.below hlo (fun b hb => by rw [hb]; exact hlm)) (hx1.mono (Nat.le_trans hlo hbx.size)))⟩
    · have hmo := hmap
      obtain ⟨S, hS⟩ : ∃ S, Hid (Px.over L M = S) := ⟨_, rfl⟩
      rw [hS.out] at hmap
      have okL := (Px.put_ok L).1 hpL.out
      have okM := (Px.put_ok M).1 hpM.out
      have hsS : Hid (Px.Srt S) := by show Px.Srt S; rw [← hS.out]; exact Px.overs_srt okL.2.2 okM.2.2
      obtain ⟨ls, hls⟩ : ∃ l, Hid (S.length = l) := ⟨_, rfl⟩
      have hlen := fun ty => hmap.len ty
      rw [hls.out] at hlen
      by_cases hf : 64 < ls
      · have t1 : (64 : Int) < (ls : Int) := by omega
        have hE : Hid (Px.overF L M = ([], 3)) := by
          show _ = _
          unfold Px.overF
          rw [if_neg (fun h => h hpL.out), if_neg (fun h => h hpM.out), if_pos (by rw [hS.out, hls.out]; exact hf)]
        clear hf
        go_wp2
        go_ret2
        exact ⟨⟨_, by rw [hE.out]; rfl, by rw [hE.out]; exact World.ownsRow_nil _ _ _ _⟩, HW.out _ (hbx.below hlo (fun b hb => by rw [hb]; exact hlm))⟩
      · have t1 : (ls : Int) ≤ 64 := by omega
        have h64 : ls ≤ 64 := by omega
        have hE : Hid (Px.overF L M = (S, 0)) := by
          show _ = _
          unfold Px.overF
          rw [if_neg (fun h => h hpL.out), if_neg (fun h => h hpM.out), if_neg (by rw [hS.out, hls.out]; exact hf), hS.out]
        have HSS : Hid (∀ p ∈ S, p.1.length ≤ 140737488355328) := fun p hp => by
          rw [← hS.out] at hp
          rcases Px.overs_mem hp with h | h
          · exact (HSL.out p h).1
          · exact (HSM.out p h).1
        have hv : VarAt (wo.alloc (.cells #[.map (some gm)] 51)) wo.heap.size 51 (.map (some gm)) := VarAt.new _ _ _
        have hal : Bw wo (wo.alloc (.cells #[.map (some gm)] 51)) := Below.alloc (Below.refl _ _) (Nat.le_refl _) _
        have hm2 := hmap.keepb hal hmap.lt
        have hne : gm ≠ wo.heap.size := Nat.ne_of_lt hmap.lt
        have HSo := SP.sorted _ gm _ 192 S hm2 hv hne hsS.out (by rw [hls.out]; exact h64) HSS.out
        rw [hls.out] at HSo
        clear hf
        go_wp2_with (first
          | (go_at_call 23; refine (SP.vals _ gm).mono ?_; rintro e w2 ⟨rfl, hw2⟩; subst w2)
          | (go_at_call 22; refine HSo.mono ?_; rintro e w3 ⟨v, rfl, ho3, hw3⟩))
        go_ret2
        refine ⟨⟨_, by rw [hE.out]; rfl, ?_⟩, HW.out _ (Below.trans (hbx.below hlo (fun b hb => by rw [hb]; exact hlm)) ((hal.trans hw3).mono (Nat.le_trans hlo hbx.size)))⟩
        rw [hE.out]
        dsimp only
        rw [hls.out]
        exact own_lower9 ho3 (by rw [hlow.out]; exact Nat.le_trans hlo (Nat.le_trans hbx.size hal.size))
end Go.Proofs.YtmbabfelnieagabDoor

/- Layer 19: Is, Cut, New. -/
import Derived.Test.YtjjnbpbbjaabeaaTi
namespace Go.Proofs.Ytjjnbpbbjaabeaa
open Go.RowKit Go.Deep
set_option linter.unusedVariables false
set_option linter.unusedSimpArgs false

set_option maxRecDepth 100000 in
theorem is_any {w : World} {g : Nat} {v : Value} {gm : Nat} {E : List Raw} {S : Ai.St} (h : AirX w g v gm E S) {p q : Int} (hp : In64 p) (hq : In64 q) :
    Calls Try.prog 22 #[.pointer (some ⟨g, 0, none⟩), .int .i64 p, .int .i64 q] w fun e w' => e = .returned (.bool (S.cut p q)) ∧ Bw w w' := by
  have c2 := h.c2
  obtain ⟨n, D, ho, hD⟩ := h.map.look hp hq
  obtain ⟨b, hb⟩ : ∃ b, Hid (S.cut p q = b) := ⟨_, rfl⟩
  rw [hb.out] at hD ⊢
  have HO : Hid (w.ownsMap Try.prog 61 (unitElem (H := Unit)) gm n D) := ho
  have HD : Hid (Maps.has D (.string (kb p q)) = b) := hD
  have HK : Hid (keyOf Try.prog 61 (.agg #[.int .i64 p, .int .i64 q]) = some (.string (kb p q))) := key_kb hp hq
  clear h ho hD hb hp hq
  go_enter Try.func22, Try.ntmps22
  go_wp2_with (first
    | (refine wpList_lookup_own_unit w rfl (.tmp 15) (.tmp 18) _ rfl 61 59 keyed19 Try.underlying52 (by kernel_rfl) gm n D (by rfl) HO.out _ (.string (kb p q)) (by rfl) HK.out ?_; rw [HD.out]))
  go_ret
  exact ⟨rfl, bw_allocx (Bw.refl _)⟩
/-- a map's store as an operation -/
theorem wpList_put19 {w w' : World} {ops : Array Oper} {rest : List Oper} {o : Oper} {a : Act} {Q : Exit → Act → World → Prop} (hgd : o.guard = none) (m x v : Operand) (hop : o.op = Op.mapUpdate 52 m x v) (vm vx vv : Value)
    (hm : a.eval m = vm) (hx : a.eval x = vx) (hv : a.eval v = vv) (hrun : (Instr.mapUpdate 52 vm vx vv).run Try.prog w = .ok () w')
    (hK : wpList Try.prog ops Q rest (a.put o.dst undef) w') : wpList Try.prog ops Q (o :: rest) a w := by
  refine wpList_plain hgd fun K' hK' => ?_
  unfold Oper.wp
  simp [execOp, hop, hm, hx, hv, hrun, Result.andThen]
  exact hK' _ _ hK
theorem wpList_del19 {w : World} {ops : Array Oper} {rest : List Oper} {o : Oper} {a : Act} {Q : Exit → Act → World → Prop} (hgd : o.guard = none) (m x : Operand)
    (hop : o.op = Op.call { callee := Callee.builtin Builtin.delete, args := #[m, x], argTypes := #[52, 61] }) (vm vx : Value)
    (hm : a.eval m = vm) (hx : a.eval x = vx) (R : World → Prop) (hrun : ∀ ty, ∃ w', (Builtin.delete_ #[52, 61] ty #[vm, vx]).run Try.prog w = .ok (.tuple #[]) w' ∧ R w')
    (hK : ∀ w', R w' → wpList Try.prog ops Q rest (a.put o.dst (.tuple #[])) w') : wpList Try.prog ops Q (o :: rest) a w := by
  refine wpList_plain hgd fun K' hK' => ?_
  obtain ⟨w', hr, hR⟩ := hrun o.type
  unfold Oper.wp
  simp [execOp, hop, resolve, invoke, builtin, hm, hx, hr, Result.andThen]
  exact hK' _ _ (hK w' hR)
set_option maxRecDepth 100000 in
set_option maxHeartbeats 4000000 in
theorem cut_any {w : World} {g : Nat} {v : Value} {gm : Nat} {E : List Raw} {S : Ai.St} (h : AirX w g v gm E S) {p q : Int} (hp : In64 p) (hq : In64 q) (off : Bool) (hm : S.m ≤ 1000000) :
    Calls Try.prog 21 #[.pointer (some ⟨g, 0, none⟩), .int .i64 p, .int .i64 q, .bool off] w fun e w' => e = .returned (.int .i64 (if (S.is p && S.is q) = true then 0 else 1)) ∧ AirX w' g v gm E (S.cutW p q off) ∧ Bx (· = gm) w w' := by
  have HP : Hid (Calls Try.prog 35 #[.pointer (some ⟨g, 0, none⟩), .int .i64 p] w fun e w' => e = .returned (.bool (S.is p)) ∧ w' = w) := party_any h p
  have HQ : Hid (Calls Try.prog 35 #[.pointer (some ⟨g, 0, none⟩), .int .i64 q] w fun e w' => e = .returned (.bool (S.is q)) ∧ w' = w) := party_any h q
  have HN : Hid (¬ (S.is p && S.is q) = true → AirX w g v gm E (S.cutW p q off) ∧ Bx (· = gm) w w) := fun hn => by
    have e : S.cutW p q off = S := by unfold Ai.St.cutW; rw [if_neg hn]
    rw [e]; exact ⟨h, Bx.refl _ _⟩
  have c2 := h.c2
  by_cases bp : S.is p = true
  · by_cases bq : S.is q = true
    · have hb : (S.is p && S.is q) = true := by rw [bp, bq]; rfl
      have e : S.cutW p q off = { S with cut := fun x y => if x = p ∧ y = q then off else S.cut x y, m := S.m + 1 } := by unfold Ai.St.cutW; rw [if_pos hb]
      have hok := Ai.cut_ok h.ok p q off
      rw [if_pos hb, e]
      rw [e] at hok
      rw [bp] at HP
      rw [bq] at HQ
      have HE : Hid (∀ w', CutAt w' gm (S.m + 1) (fun x y => if x = p ∧ y = q then off else S.cut x y) → Bx (· = gm) w w' → AirX w' g v gm E { S with cut := fun x y => if x = p ∧ y = q then off else S.cut x y, m := S.m + 1 }) := fun w' hc hx =>
        ⟨(hx.block g h.lt (fun e => h.nem e)).trans h.cells, h.und.keepx hx (fun b hb e => h.nevm (by rw [hb, e])), h.dgs.keepx hx (h.sep.mono (fun b hb e => hb (.inr (.inl e)))), hc, hok, h.sep⟩
      cases off
      · have HD : Hid (∀ ty, ∃ w', (Builtin.delete_ #[52, 61] ty #[.map (some gm), .agg #[.int .i64 p, .int .i64 q]]).run Try.prog w = .ok (.tuple #[]) w' ∧ CutAt w' gm (S.m + 1) (fun x y => if x = p ∧ y = q then false else S.cut x y) ∧ Bx (· = gm) w w') := fun ty => h.map.del hp hq ty
        clear h hb e hok hp hq hm bp bq HN
        go_enter Try.func21, Try.ntmps21
        go_wp2_with (first
          | (go_at_call 35; first | (refine HP.out.mono ?_; clear HP; rintro e w2 ⟨rfl, hw⟩; subst w2) | (refine HQ.out.mono ?_; rintro e w2 ⟨rfl, hw⟩; subst w2))
          | (refine wpList_del19 rfl (.tmp 12) (.tmp 15) rfl _ _ (by rfl) (by rfl) _ HD.out ?_; rintro w3 ⟨h1, h2⟩; have h3 := HE.out _ h1 h2; replace h3 := (show Hid _ from h3); clear h1))
        go_ret
        exact ⟨rfl, h3.out, h2⟩
      · obtain ⟨w3, hu, h1, h2⟩ := h.map.put hm hp hq
        have HU : Hid ((Instr.mapUpdate 52 (.map (some gm)) (.agg #[.int .i64 p, .int .i64 q]) (.agg #[])).run Try.prog w = .ok () w3) := hu
        have h3 := HE.out _ h1 h2
        replace h3 := (show Hid _ from h3)
        clear h h1 hb e hok hp hq hm bp bq HN hu
        go_enter Try.func21, Try.ntmps21
        go_wp2_with (first
          | (go_at_call 35; first | (refine HP.out.mono ?_; clear HP; rintro e w2 ⟨rfl, hw⟩; subst w2) | (refine HQ.out.mono ?_; rintro e w2 ⟨rfl, hw⟩; subst w2))
          | (refine wpList_put19 rfl (.tmp 35) (.tmp 38) (.tmp 39) rfl _ _ _ (by rfl) (by rfl) (by rfl) HU.out ?_))
        go_ret
        exact ⟨rfl, h3.out, h2⟩
    · have bq' : S.is q = false := by cases e : S.is q; rfl; exact absurd e bq
      have hb : ¬ (S.is p && S.is q) = true := by rw [bp, bq']; decide
      rw [if_neg hb]
      have HN1 := HN.out hb
      rw [bp] at HP
      rw [bq'] at HQ
      replace HN1 := (show Hid _ from HN1)
      clear h hb hp hq hm bp bq bq' HN c2
      go_enter Try.func21, Try.ntmps21
      go_wp2_with (go_at_call 35; first | (refine HP.out.mono ?_; clear HP; rintro e w2 ⟨rfl, hw⟩; subst w2) | (refine HQ.out.mono ?_; rintro e w2 ⟨rfl, hw⟩; subst w2))
      go_ret
      exact ⟨rfl, HN1.out.1, HN1.out.2⟩
  · have bp' : S.is p = false := by cases e : S.is p; rfl; exact absurd e bp
    have hb : ¬ (S.is p && S.is q) = true := by rw [bp', Bool.false_and]; decide
    rw [if_neg hb]
    have HN1 := HN.out hb
    rw [bp'] at HP
    replace HN1 := (show Hid _ from HN1)
    clear h hb hp hq hm bp bp' HN c2
    go_enter Try.func21, Try.ntmps21
    go_wp2_with (go_at_call 35; refine HP.out.mono ?_; rintro e w2 ⟨rfl, hw⟩; subst w2)
    go_ret
    exact ⟨rfl, HN1.out.1, HN1.out.2⟩
/-- how New ends -/
def NewEnds (w : World) (n : Int) (e : Ending) (w' : World) : Prop :=
  (n < 1 ∧ e = .returned (.tuple #[.pointer none, .int .i64 1]) ∧ w' = w) ∨ (64 < n ∧ e = .returned (.tuple #[.pointer none, .int .i64 2]) ∧ w' = w) ∨
  ∃ (m : Nat) (g gm : Nat), n = (m : Int) ∧ 1 ≤ m ∧ m ≤ 64 ∧ e = .returned (.tuple #[.pointer (some ⟨g, 0, none⟩), .int .i64 0]) ∧ AirX w' g (.slice none 0 0) gm [] (Ai.new m) ∧ w.heap.size ≤ g ∧ w.heap.size ≤ gm ∧ Bw w w'
set_option maxRecDepth 100000 in
theorem new_any (n : Int) (w : World) : Calls Try.prog 9 #[.int .i64 n] w fun e w' => NewEnds w n e w' := by
  by_cases h1 : n < 1
  · have d1 : decide (n < 1) = true := decide_eq_true h1
    have HE : Hid (NewEnds w n (.returned (.tuple #[.pointer none, .int .i64 1])) w) := .inl ⟨h1, rfl, rfl⟩
    clear h1
    go_enter Try.func9, Try.ntmps9
    go_wp2
    go_ret2
    exact HE.out
  · have d1 : decide (n < 1) = false := decide_eq_false h1
    by_cases h2 : 64 < n
    · have HE : Hid (NewEnds w n (.returned (.tuple #[.pointer none, .int .i64 2])) w) := .inr (.inl ⟨h2, rfl, rfl⟩)
      have d2 : decide (64 < n) = true := decide_eq_true h2
      clear h1 h2
      go_enter Try.func9, Try.ntmps9
      go_wp2
      go_ret2
      exact HE.out
    · have d2 : decide (64 < n) = false := decide_eq_false h2
      obtain ⟨m, hm⟩ : ∃ m : Nat, Hid (n = (m : Int)) := ⟨n.toNat, by show _ = _; omega⟩
      have hb : 1 ≤ m ∧ m ≤ 64 := by have := hm.out; omega
      obtain ⟨z, hz⟩ : ∃ z, Hid (w.heap.size = z) := ⟨_, rfl⟩
      obtain ⟨W1, hW1⟩ : ∃ W, Hid (w.alloc (.map #[] 0) = W) := ⟨_, rfl⟩
      obtain ⟨z2, hz2⟩ : ∃ z2, Hid (W1.heap.size = z2) := ⟨_, rfl⟩
      obtain ⟨W2, hW2⟩ : ∃ W, Hid (W1.alloc (.cells #[.int .i64 n, .slice none 0 0, .map (some z)] 54) = W) := ⟨_, rfl⟩
      have k1 : Bw w W1 := by rw [← hW1.out]; exact bw_allocx (Bw.refl _)
      have k2 : Bw W1 W2 := by rw [← hW2.out]; exact bw_allocx (Bw.refl _)
      have hc : CutAt W1 z 0 (fun _ _ => false) := by rw [← hW1.out, ← hz.out]; exact CutAt.new w
      have hA : AirX W2 z2 (.slice none 0 0) z [] (Ai.new m) := by
        refine ⟨?_, .inl ⟨rfl, rfl⟩, DgsV.nil _, hc.keep k2, Ai.new_ok hb.1 hb.2, fun r hr => (by cases hr)⟩
        rw [← hW2.out, ← hz2.out, hm.out]
        exact heap_alloc_new _ _
      have HE : Hid (NewEnds w n (.returned (.tuple #[.pointer (some ⟨z2, 0, none⟩), .int .i64 0])) W2) := .inr (.inr ⟨m, z2, z, hm.out, hb.1, hb.2, rfl, hA, by rw [← hz2.out]; exact k1.size, Nat.le_of_eq hz.out, k1.trans k2⟩)
      clear h1 h2 hA hc
      have hmk : ∀ u : World, (Instr.makeMap 52 none).run Try.prog u = .ok (.map (some u.heap.size)) (u.alloc (.map #[] 0)) := fun u => rfl
      go_enter Try.func9, Try.ntmps9
      go_wp2
      go_ret2
      have e2 : z + 1 = z2 := by rw [← hz2.out, ← hW1.out, size_alloc, hz.out]
      rw [hW1.out, hz.out, hW2.out, e2]
      exact HE.out
end Go.Proofs.Ytjjnbpbbjaabeaa

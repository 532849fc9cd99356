/- Layer 15: Open. -/
import Derived.Test.YtppknadflmjefaaWH
namespace Go.Proofs.Ytppknadflmjefaa
open Go.RowKit Go.Deep Go.Maps
set_option linter.unusedVariables false
set_option linter.unusedSimpArgs false

theorem eql_if1 (w : World) : (binOp .eql 20 (.iface 28 (.int .i64 150)) .nilIface).run Try.prog w = .ok (.bool false) w := by kernel_rfl
theorem eql_if2 (w : World) : (binOp .eql 20 (.iface 28 (.int .i64 150)) (.iface 28 (.int .i64 150))).run Try.prog w = .ok (.bool true) w := by kernel_rfl
theorem eql_if3 (w : World) : (binOp .eql 20 .nilIface .nilIface).run Try.prog w = .ok (.bool true) w := by kernel_rfl
set_option maxHeartbeats 1000000 in
theorem jcatch_yes (p q : Nat) (hpq : p ≠ q) (x : Option Addr) (y : Int) (w : World) (c1 : w.cell? ⟨p, 0, none⟩ = some (.pointer x)) (f1 : w.frozen? ⟨p, 0, none⟩ = false) (c2 : (w.setCell ⟨p, 0, none⟩ (.pointer none)).cell? ⟨q, 0, none⟩ = some (.int .i64 y)) (f2 : (w.setCell ⟨p, 0, none⟩ (.pointer none)).frozen? ⟨q, 0, none⟩ = false) :
    CallsD Try.prog 47 #[.pointer (some ⟨p, 0, none⟩), .pointer (some ⟨q, 0, none⟩)] (.panicking [{ v := .iface 28 (.int .i64 150), recovered := false }]) w fun e u' w' =>
      e = .returned (.tuple #[]) ∧ u' = .panicking [{ v := .iface 28 (.int .i64 150), recovered := true }] ∧ w' = (w.setCell ⟨p, 0, none⟩ (.pointer none)).setCell ⟨q, 0, none⟩ (.int .i64 150) := by
  refine callsD_of_wpS Try.func47 rfl fun c₀ cs hu => ?_
  apply wpS_seq
  apply wpS_region
  simp [wpOpsS, go_sem, recoverD, hu, Try.ntmps47, Exit.thenS]
  have hT : (#[Value.pointer (some ⟨p, 0, none⟩), Value.pointer (some ⟨q, 0, none⟩)] ++ (((Array.replicate 9 undef).setIfInBounds 1 (.iface 28 (.int .i64 150))).setIfInBounds 0 (.iface 28 (.int .i64 150)))) = #[.pointer (some ⟨p, 0, none⟩), .pointer (some ⟨q, 0, none⟩), .iface 28 (.int .i64 150), .iface 28 (.int .i64 150), undef, undef, undef, undef, undef, undef, undef] := by rfl
  rw [hT]
  clear hT
  refine wpS_of_wp ?_
  have h1 := eql_if1
  have h2 := eql_if2
  go_wp2
  simp [bodyPostS, results, Try.results47]
set_option maxHeartbeats 1000000 in
theorem jcatch_idle (p q : Nat) (w : World) :
    CallsD Try.prog 47 #[.pointer (some ⟨p, 0, none⟩), .pointer (some ⟨q, 0, none⟩)] .returning w fun e u' w' => e = .returned (.tuple #[]) ∧ u' = .returning ∧ w' = w := by
  refine callsD_of_wpS Try.func47 rfl fun c₀ cs hu => ?_
  apply wpS_seq
  apply wpS_region
  simp [wpOpsS, go_sem, recoverD, hu, Try.ntmps47, Exit.thenS]
  have hT : (#[Value.pointer (some ⟨p, 0, none⟩), Value.pointer (some ⟨q, 0, none⟩)] ++ (((Array.replicate 9 undef).setIfInBounds 1 .nilIface).setIfInBounds 0 .nilIface)) = #[.pointer (some ⟨p, 0, none⟩), .pointer (some ⟨q, 0, none⟩), .nilIface, .nilIface, undef, undef, undef, undef, undef, undef, undef] := by rfl
  rw [hT]
  clear hT
  refine wpS_of_wp ?_
  have h1 := eql_if3
  go_wp2
  cases c₀
  simp_all [bodyPostS, results, Try.results47]
namespace Jl
/-- what Open answers, and the journal -/
def openE (S : Dsk) (x y : Int) : Int := if y < 4 ∨ ¬ (0 ≤ x ∧ x + y ≤ S.n) then 1 else if S.dead then 140 else if (opn S x.toNat y.toNat).isNone then 150 else 0
def openJ (S : Dsk) (x y : Int) : Option Jn := if openE S x y = 0 then opn S x.toNat y.toNat else none
end Jl
/-- a journal or none -/
def JoAt (w : World) (base g : Nat) (R : Nat → Prop) (p v : Value) : Option Jl.Jn → Prop
  | none => p = .pointer none ∧ v = .slice none 0 0
  | some J => ∃ gj, p = .pointer (some ⟨gj, 0, none⟩) ∧ JrAt w base gj g R v J
/-- how Open ends -/
def OpenV (w : World) (g : Nat) (E : Int) (O : Option Jl.Jn) (e : Ending) (w' : World) : Prop := Bw w w' ∧ ∃ p v, e = .returned (.tuple #[p, .int .i64 E]) ∧ JoAt w' w.heap.size g (fun b => w.heap.size ≤ b) p v O
theorem openV_err {w w' : World} {g : Nat} {E : Int} (h : Bw w w') : OpenV w g E none (.returned (.tuple #[.pointer none, .int .i64 E])) w' := ⟨h, _, _, rfl, rfl, rfl⟩
/-- the three blocks that Open lays -/
structure Three (w W : World) (z : Nat) (x y : Int) : Prop where
  bw : Bw w W
  b0 : W.heap[z]? = some (.cells #[.int .i64 x, .int .i64 y] 23 (0, 0))
  b1 : W.heap[z + 1]? = some (.cells #[.pointer none] 46 (0, 0))
  b2 : W.heap[z + 1 + 1]? = some (.cells #[.int .i64 0] 28 (0, 0))
theorem Three.keep {w W W' : World} {z : Nat} {x y : Int} (h : Three w W z x y) (k : Bw W W') : Three w W' z x y :=
  ⟨h.bw.trans k, (k.block _ (Array.getElem?_eq_some_iff.1 h.b0).1).trans h.b0, (k.block _ (Array.getElem?_eq_some_iff.1 h.b1).1).trans h.b1, (k.block _ (Array.getElem?_eq_some_iff.1 h.b2).1).trans h.b2⟩
theorem three_of (w : World) (x y : Int) : Three w (((w.alloc (.cells #[.int .i64 x, .int .i64 y] 23)).alloc (.cells #[.pointer none] 46)).alloc (.cells #[.int .i64 0] 28)) w.heap.size x y := by
  refine ⟨Below.alloc (Below.alloc (Below.alloc (Bw.refl _) (Nat.le_refl _) _) (by rw [size_alloc]; omega) _) (by rw [size_alloc, size_alloc]; omega) _, heap3_old _ _ _ _, ?_, heap3_new _ _ _ _⟩
  have h1 := heap_alloc_new (w.alloc (.cells #[.int .i64 x, .int .i64 y] 23)) (.cells #[.pointer none] 46)
  rw [size_alloc] at h1
  exact ((Below.alloc (Bw.refl _) (Nat.le_refl _) _ : Bw _ _).block _ (by rw [size_alloc, size_alloc]; omega)).trans h1
/-- both results are stored -/
theorem Three.set {w W : World} {z : Nat} {x y : Int} (h : Three w W z x y) (hz : w.heap.size ≤ z) (a : Option Addr) (E : Int) :
    W.cell? ⟨z + 1, 0, none⟩ = some (.pointer none) ∧ W.frozen? ⟨z + 1, 0, none⟩ = false ∧ (W.setCell ⟨z + 1, 0, none⟩ (.pointer a)).cell? ⟨z + 1 + 1, 0, none⟩ = some (.int .i64 0) ∧ (W.setCell ⟨z + 1, 0, none⟩ (.pointer a)).frozen? ⟨z + 1 + 1, 0, none⟩ = false ∧
    ((W.setCell ⟨z + 1, 0, none⟩ (.pointer a)).setCell ⟨z + 1 + 1, 0, none⟩ (.int .i64 E)).cell? ⟨z + 1, 0, none⟩ = some (.pointer a) ∧ ((W.setCell ⟨z + 1, 0, none⟩ (.pointer a)).setCell ⟨z + 1 + 1, 0, none⟩ (.int .i64 E)).cell? ⟨z + 1 + 1, 0, none⟩ = some (.int .i64 E) ∧
    Bx (fun b => b = z + 1 ∨ b = z + 1 + 1) W ((W.setCell ⟨z + 1, 0, none⟩ (.pointer a)).setCell ⟨z + 1 + 1, 0, none⟩ (.int .i64 E)) ∧ Bw w ((W.setCell ⟨z + 1, 0, none⟩ (.pointer a)).setCell ⟨z + 1 + 1, 0, none⟩ (.int .i64 E)) := by
  have k1 : Bx (· = z + 1) W (W.setCell ⟨z + 1, 0, none⟩ (.pointer a)) := (Bx.refl _ _).put rfl
  have b1' : (W.setCell ⟨z + 1, 0, none⟩ (.pointer a)).heap[z + 1]? = some (.cells #[.pointer a] 46 (0, 0)) := heap_setCell_same W (z + 1) 0 _ _ _ h.b1
  have b2' : (W.setCell ⟨z + 1, 0, none⟩ (.pointer a)).heap[z + 1 + 1]? = some (.cells #[.int .i64 0] 28 (0, 0)) := (k1.block _ (Array.getElem?_eq_some_iff.1 h.b2).1 (by omega)).trans h.b2
  have k2 : Bx (· = z + 1 + 1) (W.setCell ⟨z + 1, 0, none⟩ (.pointer a)) ((W.setCell ⟨z + 1, 0, none⟩ (.pointer a)).setCell ⟨z + 1 + 1, 0, none⟩ (.int .i64 E)) := (Bx.refl _ _).put rfl
  have k3 : Bx (fun b => b = z + 1 ∨ b = z + 1 + 1) W ((W.setCell ⟨z + 1, 0, none⟩ (.pointer a)).setCell ⟨z + 1 + 1, 0, none⟩ (.int .i64 E)) := (k1.more (fun b e => .inl e)).trans (k2.more (fun b e => .inr e))
  have b1'' := (k2.block _ (Array.getElem?_eq_some_iff.1 b1').1 (by omega)).trans b1'
  have b2'' : ((W.setCell ⟨z + 1, 0, none⟩ (.pointer a)).setCell ⟨z + 1 + 1, 0, none⟩ (.int .i64 E)).heap[z + 1 + 1]? = some (.cells #[.int .i64 E] 28 (0, 0)) := heap_setCell_same _ (z + 1 + 1) 0 _ _ _ b2'
  exact ⟨cell_of_row _ _ 0 _ _ _ h.b1, frozen_of_row _ _ 0 _ _ h.b1, cell_of_row _ _ 0 _ _ _ b2', frozen_of_row _ _ 0 _ _ b2', cell_of_row _ _ 0 _ _ _ b1'', cell_of_row _ _ 0 _ _ _ b2'', k3, Below.trans h.bw (k3.below h.bw.size (fun b e => by rcases e with e | e <;> omega))⟩
set_option maxRecDepth 100000 in
set_option maxHeartbeats 4000000 in
theorem jopen_any {w : World} {g lb gm : Nat} {S : Dsk} (h : DiskAt w g lb gm S) (x y : Int) (bx : -9223372036854775808 ≤ x ∧ x < 9223372036854775808) (bY : -9223372036854775808 ≤ y ∧ y < 9223372036854775808) :
    Calls Try.prog 19 #[.pointer (some ⟨g, 0, none⟩), .agg #[.int .i64 x, .int .i64 y]] w fun e w' => OpenV w g (Jl.openE S x y) (Jl.openJ S x y) e w' := by
  have hmf : ∀ (fn : Fn) (first cap : Array Value) (w : World), (Instr.makeFunc fn first cap).run Try.prog w = .ok (.func fn first cap) w := fun _ _ _ _ => rfl
  have bx0 := bx.1
  have bx1 := bx.2
  have hn := h.ok.n1
  obtain ⟨z, hz⟩ : ∃ z, Hid (w.heap.size = z) := ⟨_, rfl⟩
  have h3 := three_of w x y
  obtain ⟨W1, hW1⟩ : ∃ W, Hid ((((w.alloc (.cells #[.int .i64 x, .int .i64 y] 23)).alloc (.cells #[.pointer none] 46)).alloc (.cells #[.int .i64 0] 28)) = W) := ⟨_, rfl⟩
  rw [hW1.out, hz.out] at h3
  have hzz : Hid (w.heap.size ≤ z) := by rw [hz.out]; exact Nat.le_refl z
  have hd1 := h.keep h3.bw
  have c0 := cell_of_row W1 z 0 _ _ _ h3.b0
  replace c0 : W1.cell? ⟨z, 0, none⟩ = some (.int .i64 x) := c0
  have c1 := cell_of_row W1 z 1 _ _ _ h3.b0
  replace c1 : W1.cell? ⟨z, 1, none⟩ = some (.int .i64 y) := c1
  obtain ⟨E, hE⟩ : ∃ E, Hid (Jl.openE S x y = E) := ⟨_, rfl⟩
  obtain ⟨O, hO⟩ : ∃ O, Hid (Jl.openJ S x y = O) := ⟨_, rfl⟩
  rw [hE.out, hO.out]
  by_cases hy : y < 4
  · have hE1 : Jl.openE S x y = 1 := if_pos (.inl hy)
    obtain rfl : E = 1 := by rw [← hE.out, hE1]
    obtain rfl : O = none := by rw [← hO.out]; unfold Jl.openJ; rw [hE1]; rfl
    clear h hd1
    go_enter_defers Try.func19, Try.ntmps19
    go_wp2_with (rw [hW1.out, hz.out])
    go_quiet (fail)
    have h3q := h3.keep (Bw.drewN W1 nq)
    generalize W1.drewN nq = W2 at h3q ⊢
    obtain ⟨l1, l2, l3, l4, l5, l6, -, l8⟩ := h3q.set hzz.out none 1
    have hend := openV_err (g := g) (E := 1) l8
    replace hend := (show Hid _ from hend)
    clear h3 h3q l8
    go_wp2
    refine leaves_cons (f := 47) (args := #[.pointer (some ⟨z + 1, 0, none⟩), .pointer (some ⟨z + 1 + 1, 0, none⟩)]) (by simp) (by simp [go_sem]) ?_
    refine (jcatch_idle (z + 1) (z + 1 + 1) _).mono ?_
    rintro e u' w'' ⟨rfl, rfl, rfl⟩
    simp only [Leaves, settle]
    exact ⟨.tuple #[.pointer none, .int .i64 1], by simp [results, Try.results19, go_sem, l5, l6], hend.out⟩
  · have y4 : decide (y < 4) = false := decide_eq_false hy
    have HSz := size_any (hd1.keep ((Bw.refl W1).drew))
    have HIT := isthere_any x y S.n hn bx1 W1.drew
    by_cases ht : 0 ≤ x ∧ y ≤ (S.n : Int) - x
    · obtain ⟨r0, rfl⟩ : ∃ r : Nat, x = (r : Int) := ⟨x.toNat, by omega⟩
      obtain ⟨rc, rfl⟩ : ∃ r : Nat, y = (r : Int) := ⟨y.toNat, by omega⟩
      rw [decide_eq_true ht] at HIT
      have hin : r0 + rc ≤ S.n := by omega
      have h4 : 4 ≤ rc := by omega
      have HOp : Hid (∀ W, Bw W1 W → Calls Try.prog 50 #[.pointer (some ⟨g, 0, none⟩), .agg #[.int .i64 (r0 : Int), .int .i64 (rc : Int)]] W fun e w' => OpenedV W g S r0 rc e w') := fun W k => jopened_any (hd1.keep k) r0 rc h4 hin
      have HE2 : Hid (E = if S.dead then 140 else if (Jl.opn S r0 rc).isNone then 150 else 0) := by
        show _ = _
        rw [← hE.out]
        unfold Jl.openE
        rw [if_neg (by omega), Int.toNat_natCast, Int.toNat_natCast]
      have HO2 : Hid (O = if E = 0 then Jl.opn S r0 rc else none) := by
        show _ = _
        rw [← hO.out]
        unfold Jl.openJ
        rw [hE.out, Int.toNat_natCast, Int.toNat_natCast]
      clear h hd1 ht hy hin h4 hE hO
      go_enter_defers Try.func19, Try.ntmps19
      go_wp2_with (rw [hW1.out, hz.out])
      go_region_held3 (fun w' => w'.cell? ⟨z, 0, none⟩ = some (.int .i64 (r0 : Int)) ∧ w'.cell? ⟨z, 1, none⟩ = some (.int .i64 (rc : Int)) ∧ Bw W1 w')
        (first | exact ⟨c0, c1, Below.drew (Bw.refl _)⟩ | assumption | (exact keep_two15 (by assumption) (by assumption)))
        (first
          | (go_at_call 49; refine HSz.mono ?_; rintro e w3 ⟨rfl, hw⟩; obtain rfl := hw.symm)
          | (go_at_call 48; refine HIT.mono ?_; rintro e w3 ⟨rfl, hw3⟩))
      rename_i hSe
      obtain ⟨d0, d1, hbw3⟩ := hSe
      have h3q := h3.keep hbw3
      have HX := HOp.out _ hbw3
      clear HOp h3 HIT HSz c0 c1 y4 bx bY bx0 bx1
      cases hde : S.dead with
      | true =>
        obtain rfl : E = 140 := by rw [HE2.out, hde]; rfl
        obtain rfl : O = none := by rw [HO2.out]; rfl
        have HX2 : Calls Try.prog 50 #[.pointer (some ⟨g, 0, none⟩), .agg #[.int .i64 (r0 : Int), .int .i64 (rc : Int)]] w3 fun e w' => e = .returned (.tuple #[.pointer none, .int .i64 140]) ∧ Bw w3 w' := HX.mono (fun e w' h => by
          rcases h with ⟨h1, ⟨_, h2⟩ | ⟨h2, _⟩ | ⟨h2, _⟩⟩
          · exact ⟨h2, h1⟩
          · rw [hde] at h2; cases h2
          · rw [hde] at h2; cases h2)
        go_wp2_with (go_at_call 50; refine HX2.mono ?_; rintro e w4 ⟨rfl, hbw4⟩; have h4q := h3q.keep hbw4; obtain ⟨l1, l2, l3, l4, l5, l6, -, l8⟩ := h4q.set hzz.out none 140; have hend := openV_err (g := g) (E := 140) l8; replace hend := (show Hid _ from hend); clear h4q l8 h3q)
        refine leaves_cons (f := 47) (args := #[.pointer (some ⟨z + 1, 0, none⟩), .pointer (some ⟨z + 1 + 1, 0, none⟩)]) (by simp) (by simp [go_sem]) ?_
        refine (jcatch_idle (z + 1) (z + 1 + 1) _).mono ?_
        rintro e u' w'' ⟨rfl, rfl, rfl⟩
        simp only [Leaves, settle]
        exact ⟨.tuple #[.pointer none, .int .i64 140], by simp [results, Try.results19, go_sem, l5, l6], hend.out⟩
      | false =>
        cases hop : Jl.opn S r0 rc with
        | none =>
          obtain rfl : E = 150 := by rw [HE2.out, hde, hop]; rfl
          obtain rfl : O = none := by rw [HO2.out]; rfl
          have HX2 : Calls Try.prog 50 #[.pointer (some ⟨g, 0, none⟩), .agg #[.int .i64 (r0 : Int), .int .i64 (rc : Int)]] w3 fun e w' => e = thrown15 ∧ Bw w3 w' := HX.mono (fun e w' h => by
            rcases h with ⟨h1, ⟨h2, _⟩ | ⟨_, _, h2⟩ | ⟨_, J, gj, v, h2, _⟩⟩
            · rw [hde] at h2; cases h2
            · exact ⟨h2, h1⟩
            · rw [hop] at h2; cases h2)
          go_wp2_with (go_at_call 50; refine HX2.mono ?_; rintro e w4 ⟨rfl, hbw4⟩; have h4q := h3q.keep hbw4; obtain ⟨l1, l2, l3, l4, l5, l6, -, l8⟩ := h4q.set hzz.out none 150; have hend := openV_err (g := g) (E := 150) l8; replace hend := (show Hid _ from hend); clear h4q l8 h3q; unfold thrown15)
          refine leaves_cons (f := 47) (args := #[.pointer (some ⟨z + 1, 0, none⟩), .pointer (some ⟨z + 1 + 1, 0, none⟩)]) (by simp) (by simp [go_sem]) ?_
          refine (jcatch_yes (z + 1) (z + 1 + 1) (by omega) none 0 _ l1 l2 l3 l4).mono ?_
          rintro e u' w'' ⟨rfl, rfl, rfl⟩
          simp only [Leaves, settle, List.dropWhile]
          exact ⟨.tuple #[.pointer none, .int .i64 150], by simp [results, Try.results19, go_sem, l5, l6], hend.out⟩
        | some J =>
          obtain rfl : E = 0 := by rw [HE2.out, hde, hop]; rfl
          obtain rfl : O = some J := by rw [HO2.out, if_pos rfl, hop]
          have HX2 : Calls Try.prog 50 #[.pointer (some ⟨g, 0, none⟩), .agg #[.int .i64 (r0 : Int), .int .i64 (rc : Int)]] w3 fun e w' => ∃ gj, e = .returned (.tuple #[.pointer (some ⟨gj, 0, none⟩), .int .i64 0]) ∧ Hid (∃ v, JrAt w' w3.heap.size gj g (fun b => w3.heap.size ≤ b) v J) ∧ Bw w3 w' := HX.mono (fun e w' h => by
            rcases h with ⟨h1, ⟨h2, _⟩ | ⟨_, h2, _⟩ | ⟨_, J', gj, v, h2, h3, h4⟩⟩
            · rw [hde] at h2; cases h2
            · rw [hop] at h2; cases h2
            · rw [hop] at h2; cases h2
              exact ⟨gj, h3, ⟨v, h4⟩, h1⟩)
          have HF : Hid (∀ W gj, (∃ v, JrAt W w3.heap.size gj g (fun b => w3.heap.size ≤ b) v J) → Bw w3 W → ∀ W', Bx (fun b => b = z + 1 ∨ b = z + 1 + 1) W W' → Bw w W' → OpenV w g 0 (some J) (.returned (.tuple #[.pointer (some ⟨gj, 0, none⟩), .int .i64 0])) W') := fun W gj hJ k W' k2 k3 => by
            obtain ⟨v, hv⟩ := hJ
            have hz3 : z + 1 + 1 < w3.heap.size := (Array.getElem?_eq_some_iff.1 h3q.b2).1
            refine ⟨k3, _, v, rfl, gj, rfl, ((hv.keepx k2 (fun e => ?_) (fun b hb e => ?_) (fun b hb e => ?_)).base_le h3q.bw.size).more (fun b hb => Nat.le_trans h3q.bw.size hb)⟩
            · have := hv.ge; rcases e with e | e <;> omega
            · have := hv.jge b (.inr hb); rcases e with e | e <;> omega
            · have hb' : w3.heap.size ≤ b := hb; rcases e with e | e <;> omega
          go_wp2_with (go_at_call 50; refine HX2.mono ?_; rintro e w4 ⟨gj, rfl, hv, hbw4⟩; have h4q := h3q.keep hbw4; obtain ⟨l1, l2, l3, l4, l5, l6, l7, l8⟩ := h4q.set hzz.out (some ⟨gj, 0, none⟩) 0; have hend := HF.out w4 gj hv.out hbw4 _ l7 l8; replace hend := (show Hid _ from hend); clear h4q l8 l7)
          refine leaves_cons (f := 47) (args := #[.pointer (some ⟨z + 1, 0, none⟩), .pointer (some ⟨z + 1 + 1, 0, none⟩)]) (by simp) (by simp [go_sem]) ?_
          refine (jcatch_idle (z + 1) (z + 1 + 1) _).mono ?_
          rintro e u' w'' ⟨rfl, rfl, rfl⟩
          simp only [Leaves, settle]
          exact ⟨.tuple #[.pointer (some ⟨gj, 0, none⟩), .int .i64 0], by simp [results, Try.results19, go_sem, l5, l6], hend.out⟩
    · have hE1 : Jl.openE S x y = 1 := if_pos (.inr (fun c => ht ⟨c.1, by omega⟩))
      obtain rfl : E = 1 := by rw [← hE.out, hE1]
      obtain rfl : O = none := by rw [← hO.out]; unfold Jl.openJ; rw [hE1]; rfl
      rw [decide_eq_false ht] at HIT
      clear h hd1 ht hy hE1
      go_enter_defers Try.func19, Try.ntmps19
      go_wp2_with (rw [hW1.out, hz.out])
      go_region_held3 (fun w' => w'.cell? ⟨z, 0, none⟩ = some (.int .i64 x) ∧ w'.cell? ⟨z, 1, none⟩ = some (.int .i64 y) ∧ Bw W1 w')
        (first | exact ⟨c0, c1, Below.drew (Bw.refl _)⟩ | assumption | (exact keep_two15 (by assumption) (by assumption)))
        (first
          | (go_at_call 49; refine HSz.mono ?_; rintro e w3 ⟨rfl, hw⟩; obtain rfl := hw.symm)
          | (go_at_call 48; refine HIT.mono ?_; rintro e w3 ⟨rfl, hw3⟩))
      rename_i hSe
      have h3q := h3.keep hSe.2.2
      obtain ⟨l1, l2, l3, l4, l5, l6, -, l8⟩ := h3q.set hzz.out none 1
      have hend := openV_err (g := g) (E := 1) l8
      replace hend := (show Hid _ from hend)
      clear h3 h3q l8 hSe y4 bx bY bx0 bx1
      go_wp2
      refine leaves_cons (f := 47) (args := #[.pointer (some ⟨z + 1, 0, none⟩), .pointer (some ⟨z + 1 + 1, 0, none⟩)]) (by simp) (by simp [go_sem]) ?_
      refine (jcatch_idle (z + 1) (z + 1 + 1) _).mono ?_
      rintro e u' w'' ⟨rfl, rfl, rfl⟩
      simp only [Leaves, settle]
      exact ⟨.tuple #[.pointer none, .int .i64 1], by simp [results, Try.results19, go_sem, l5, l6], hend.out⟩
theorem jopen_nil (x y : Int) (w : World) :
    Calls Try.prog 19 #[.pointer none, .agg #[.int .i64 x, .int .i64 y]] w fun e w' => e = .returned (.tuple #[.pointer none, .int .i64 8]) ∧ Bw w w' := by
  have hmf : ∀ (fn : Fn) (first cap : Array Value) (w : World), (Instr.makeFunc fn first cap).run Try.prog w = .ok (.func fn first cap) w := fun _ _ _ _ => rfl
  obtain ⟨z, hz⟩ : ∃ z, Hid (w.heap.size = z) := ⟨_, rfl⟩
  have h3 := three_of w x y
  obtain ⟨W1, hW1⟩ : ∃ W, Hid ((((w.alloc (.cells #[.int .i64 x, .int .i64 y] 23)).alloc (.cells #[.pointer none] 46)).alloc (.cells #[.int .i64 0] 28)) = W) := ⟨_, rfl⟩
  rw [hW1.out, hz.out] at h3
  obtain ⟨l1, l2, l3, l4, l5, l6, -, l8⟩ := h3.set (by rw [hz.out]; exact Nat.le_refl z) none 8
  have hend : Hid (Bw w ((W1.setCell ⟨z + 1, 0, none⟩ (.pointer none)).setCell ⟨z + 1 + 1, 0, none⟩ (.int .i64 8))) := l8
  clear h3 l8
  go_enter_defers Try.func19, Try.ntmps19
  go_wp2_with (rw [hW1.out, hz.out])
  refine leaves_cons (f := 47) (args := #[.pointer (some ⟨z + 1, 0, none⟩), .pointer (some ⟨z + 1 + 1, 0, none⟩)]) (by simp) (by simp [go_sem]) ?_
  refine (jcatch_idle (z + 1) (z + 1 + 1) _).mono ?_
  rintro e u' w'' ⟨rfl, rfl, rfl⟩
  simp only [Leaves, settle]
  exact ⟨.tuple #[.pointer none, .int .i64 8], by simp [results, Try.results19, go_sem, l5, l6], rfl, hend.out⟩
end Go.Proofs.Ytppknadflmjefaa

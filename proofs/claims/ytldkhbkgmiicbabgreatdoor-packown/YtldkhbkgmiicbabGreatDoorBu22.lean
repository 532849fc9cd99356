/- Texts of mine, put together. -/
import Derived.Test.YtldkhbkgmiicbabGreatDoorBu21
import Derived.Lib.AppendStr
import Derived.Lib.AppendIntMem
import Derived.Lib.ItoaLen
import Derived.IntWalk

/- What is caught: the program's own caught. -/
namespace Go.Proofs.YtldkhbkgmiicbabGreatDoor
open Go.RowKit Go.Deep
set_option linter.unusedVariables false
set_option linter.unusedSimpArgs false

theorem as_yes (v : Value) (W : World) : (Instr.typeAssert (.iface 29 v) 20 29 true).run Tryz.prog W = .ok (.tuple #[v, .bool true]) W := by kernel_rfl
theorem as_nil (W : World) : (Instr.typeAssert .nilIface 20 29 true).run Tryz.prog W = .ok (.tuple #[.int .i64 0, .bool false]) W := by kernel_rfl
theorem ne_nil (W : World) : (binOp .neq 20 .nilIface .nilIface).run Tryz.prog W = .ok (.bool false) W := by kernel_rfl
set_option maxHeartbeats 1000000 in
theorem catch_yes (p : Addr) (x : Int) (er : Nat) (w : World) (hc : w.cell? p = some (.int .i64 x)) (hz : w.frozen? p = false) :
    CallsD Tryz.prog 58 #[.pointer (some p)] (.panicking [{ v := .iface 29 (.int .i64 (er : Int)), recovered := false }]) w fun e u' w' =>
      e = .returned (.tuple #[]) ∧ u' = .panicking [{ v := .iface 29 (.int .i64 (er : Int)), recovered := true }] ∧ w' = w.setCell p (.int .i64 (er : Int)) := by
  refine callsD_of_wpS Tryz.func58 rfl fun c₀ cs hu => ?_
  apply wpS_seq
  apply wpS_region
  simp [wpOpsS, go_sem, recoverD, hu, Tryz.ntmps58, Exit.thenS]
  have hT : (#[Value.pointer (some p)] ++ (((Array.replicate 14 undef).setIfInBounds 3 (.iface 29 (.int .i64 (er : Int)))).setIfInBounds 0 (.iface 29 (.int .i64 (er : Int))))) = #[.pointer (some p), .iface 29 (.int .i64 (er : Int)), undef, undef, .iface 29 (.int .i64 (er : Int)), undef, undef, undef, undef, undef, undef, undef, undef, undef, undef] := by rfl
  rw [hT]
  clear hT
  refine wpS_of_wp ?_
  have h1 := as_yes (.int .i64 (er : Int))
  go_wp2
  simp [bodyPostS, results, Tryz.results58]
set_option maxHeartbeats 1000000 in
theorem catch_idle (p : Addr) (w : World) :
    CallsD Tryz.prog 58 #[.pointer (some p)] .returning w fun e u' w' => e = .returned (.tuple #[]) ∧ u' = .returning ∧ w' = w := by
  refine callsD_of_wpS Tryz.func58 rfl fun c₀ cs hu => ?_
  apply wpS_seq
  apply wpS_region
  simp [wpOpsS, go_sem, recoverD, hu, Tryz.ntmps58, Exit.thenS]
  have hT : (#[Value.pointer (some p)] ++ (((Array.replicate 14 undef).setIfInBounds 3 .nilIface).setIfInBounds 0 .nilIface)) = #[.pointer (some p), .nilIface, undef, undef, .nilIface, undef, undef, undef, undef, undef, undef, undef, undef, undef, undef] := by rfl
  rw [hT]
  clear hT
  refine wpS_of_wp ?_
  have h1 := as_nil
  have h2 := ne_nil
  go_wp2
  cases c₀
  simp_all [bodyPostS, results, Tryz.results58]
/-- caught: what the work does behind the variable err, and whether it throws -/
def Works (fn : FuncId) (cap : Array Value) (w : World) (R : Nat → World → Prop) : Prop :=
  Calls Tryz.prog fn cap (w.alloc (.cells #[.int .i64 0] 29)) fun e w' => ∃ er, Asks er e ∧ (w'.cell? ⟨w.heap.size, 0, none⟩ = some (.int .i64 0) ∧ w'.frozen? ⟨w.heap.size, 0, none⟩ = false) ∧ R er w'
set_option maxHeartbeats 1000000 in
theorem caught_any (fn : FuncId) (cap : Array Value) (w : World) (R : Nat → World → Prop) (he : ∀ args w, (callFunc fn args).run Tryz.prog w = .ok (.enter fn args) w) (hw : Works fn cap w R) :
    Calls Tryz.prog 43 #[.func (.func fn) #[] cap] w fun e w' => ∃ (er : Nat) (w1 : World), e = .returned (.int .i64 (er : Int)) ∧ R er w1 ∧ w' = w1.setCell ⟨w.heap.size, 0, none⟩ (.int .i64 (er : Int)) := by
  have hmf : ∀ (fn : Fn) (first cap : Array Value) (w : World), (Instr.makeFunc fn first cap).run Tryz.prog w = .ok (.func fn first cap) w := fun _ _ _ _ => rfl
  go_enter_defers Tryz.func43, Tryz.ntmps43
  unfold Works at hw
  go_wp2_with (go_at_fn fn; refine hw.mono ?_; rintro e w1 ⟨er, hA, ⟨hc, hz⟩, hR⟩; rcases hA with ⟨h0, rfl⟩ | ⟨h0, rfl⟩ <;> (try unfold thrown))
  · refine leaves_cons (f := 58) (args := #[.pointer (some ⟨w.heap.size, 0, none⟩)]) (by simp) (by simp [go_sem]) ?_
    refine (catch_idle ⟨w.heap.size, 0, none⟩ _).mono ?_
    rintro e u' w'' ⟨rfl, rfl, rfl⟩
    have hcc : (w1.setCell ⟨w.heap.size, 0, none⟩ (.int .i64 0)).cell? ⟨w.heap.size, 0, none⟩ = some (.int .i64 0) := World.cell?_setCell_same' _ _ _ (by rw [hc]; rfl)
    simp only [Leaves, settle]
    refine ⟨.int .i64 0, by simp [results, Tryz.results43, go_sem, hcc], er, w1, by rw [h0]; rfl, hR, by rw [h0]; rfl⟩
  · refine leaves_cons (f := 58) (args := #[.pointer (some ⟨w.heap.size, 0, none⟩)]) (by simp) (by simp [go_sem]) ?_
    refine (catch_yes ⟨w.heap.size, 0, none⟩ 0 er _ hc hz).mono ?_
    rintro e u' w'' ⟨rfl, rfl, rfl⟩
    have hcc : (w1.setCell ⟨w.heap.size, 0, none⟩ (.int .i64 (er : Int))).cell? ⟨w.heap.size, 0, none⟩ = some (.int .i64 (er : Int)) := World.cell?_setCell_same' _ _ _ (by rw [hc]; rfl)
    simp only [Leaves, settle, List.dropWhile]
    refine ⟨.int .i64 (er : Int), by simp [results, Tryz.results43, go_sem, hcc], er, w1, rfl, hR, rfl⟩
end Go.Proofs.YtldkhbkgmiicbabGreatDoor

/- The program's own record, as landed at 7a0984bd. -/
namespace Go.Proofs.YtldkhbkgmiicbabGreatDoor
open Go.RowKit Go.Deep
set_option linter.unusedVariables false
set_option linter.unusedSimpArgs false

theorem tabB {w W : World} {B : Nat} (hk : KAt w) (h : Bw w W) (hB : w.heap.size ≤ B) : Lib.TabBelow Tryz.prog B W "internal/strconv.uint64pow10" .u64 Lib.pow10Tab := fun w' h' => (Lib.tabBelow_of_tabIs hk) w' (Below.trans h (h'.mono hB))
/-- one byte onto an owned row -/
theorem wpList_byte9 {w : World} {ops : Array Oper} {rest : List Oper} {o : Oper} {a : Act} {Q : Exit → Act → World → Prop} (hgd : o.guard = none) (s x : Operand)
    (ho : o.op = .call { callee := .builtin .append, args := #[s, x], argTypes := #[24, 24] }) (B : Nat) (c : UInt8) (v : Value) (l : Px.B) (hs : a.eval s = v)
    (hown : w.ownsRow B 5 1 v l.length (Px.cellsB l)) (g : Nat) (hx : a.eval x = .slice (some ⟨g, 0, none⟩) 1 1) (hg : w.heap[g]? = some (.cells #[.int .u8 (c.toNat : Int)] 5 (0, 0)))
    (hlen : l.length ≤ 1000000) (hB : B ≤ w.heap.size)
    (h : ∀ v' w', w'.ownsRow B 5 1 v' (l ++ [c]).length (Px.cellsB (l ++ [c])) → Below B w w' → wpList Tryz.prog ops Q rest (a.put o.dst v') w') : wpList Tryz.prog ops Q (o :: rest) a w := by
  obtain ⟨i0, hi0, hz0, hz1, hz2⟩ := info_parts info_u8
  refine wpList_append_own w hgd s x _ ho B 5 i0 _ 1 1 Tryz.underlying24 hi0 hz0 hz1 hz2 rfl (by decide) v l.length (Px.cellsB l) hs hown ⟨g, 0, none⟩ 1 1 [.int .u8 (c.toNat : Int)] hx rfl ?_ ?_ (by unfold maxLen; omega) (by omega) hB ?_
  · intro j u hj
    match j, hj with
    | 0, hj =>
      simp only [List.getElem?_cons_zero, Option.some.injEq] at hj
      subst hj
      exact cell_of_row w g 0 _ _ _ hg
  · intro u hu
    rw [List.mem_singleton] at hu
    subst hu; rfl
  · intro v' w' h1 h2 _
    refine h v' w' ?_ ((Below.refl _ _).grown h2 hB (fun k hk => (hown.lt k hk).1))
    rw [Px.cellsB_append, List.length_append]
    exact h1
theorem strCells_cellsB (s : ByteArray) : Lib.strCells s = Px.cellsB s.toList := by
  unfold Lib.strCells Px.cellsB
  rw [← Lib.toList_data]
/-- a text onto an owned row -/
theorem wpList_str9 {w : World} {ops : Array Oper} {rest : List Oper} {o : Oper} {a : Act} {Q : Exit → Act → World → Prop} (hgd : o.guard = none) (sl x : Operand)
    (ho : o.op = .call { callee := .builtin .append, args := #[sl, x], argTypes := #[24, 9] }) (B : Nat) (v : Value) (l : Px.B) (hs : a.eval sl = v)
    (hown : w.ownsRow B 5 1 v l.length (Px.cellsB l)) (s : ByteArray) (hx : a.eval x = .string s) (hlen : l.length ≤ 1000000) (hls : s.size ≤ 1000000) (hB : B ≤ w.heap.size)
    (h : ∀ v' w', w'.ownsRow B 5 1 v' (l ++ s.toList).length (Px.cellsB (l ++ s.toList)) → Below B w w' → wpList Tryz.prog ops Q rest (a.put o.dst v') w') : wpList Tryz.prog ops Q (o :: rest) a w := by
  obtain ⟨i0, hi0, hz0, hz1, hz2⟩ := info_parts info_u8
  refine Lib.wpList_append_own_string w hgd sl x _ _ ho B 5 i0 Tryz.underlying24 Tryz.underlying9 hi0 hz0 hz1 hz2 v l.length (Px.cellsB l) hs hown s hx (by unfold maxLen; omega) (by omega) hB ?_
  intro v' w' h1 h2 _
  refine h v' w' ?_ ((Below.refl _ _).grown h2 hB (fun k hk => (hown.lt k hk).1))
  rw [Px.cellsB_append, List.length_append, Nm.size_toList, ← strCells_cellsB]
  exact h1
/-- strconv.AppendInt onto an owned row -/
theorem appint_any (B z : Nat) (hz : z ≤ 1000000) (sv : Value) (l : Px.B) (hl : l.length ≤ 1000000) (w : World) (hown : w.ownsRow B 5 1 sv l.length (Px.cellsB l)) (hB : B ≤ w.heap.size) (hT : Lib.TabBelow Tryz.prog B w "internal/strconv.uint64pow10" .u64 Lib.pow10Tab) :
    Calls Tryz.prog 61 #[sv, .int .i64 (z : Int), .int .i64 10] w fun e w' => ∃ v', e = .returned v' ∧ w'.ownsRow B 5 1 v' (l ++ Px.dec z).length (Px.cellsB (l ++ Px.dec z)) ∧ Below B w w' :=
  (Any.strconv_AppendInt_10 (ρ := sx176_ren) sx176 B l.length (z : Int) (by omega) (by omega) sv (Px.cellsB l) w hown hB (by omega) hT).mono fun e w' ⟨v', h1, h2, h3, _⟩ => ⟨v', h1, by
    rw [Px.itoa_dec] at h2
    rw [Px.cellsB_append, List.length_append]
    exact h2, h3⟩
/-- what record answers -/
def RecIn (p : Px.Pr) (base : Nat) (e : Ending) (w' : World) : Prop := Px.fits p ≠ 0 ∧ e = thrown (Px.fits p) ∨ Px.fits p = 0 ∧ ∃ v, e = .returned v ∧ w'.ownsRow base 5 1 v (Px.rcd p).length (Px.cellsB (Px.rcd p))
theorem own_lower9 {w : World} {base base' : Nat} {e : TypeId} {s n : Nat} {v : Value} {xs : List Value} (h : w.ownsRow base e s v n xs) (hb : base' ≤ base) : w.ownsRow base' e s v n xs := by
  rcases h with ⟨h0, h1 | ⟨g, cap, cur, h1, h2, h3⟩⟩
  · exact ⟨h0, .inl h1⟩
  · exact ⟨h0, .inr ⟨g, cap, cur, h1, Nat.le_trans hb h2, h3⟩⟩
theorem made_none (n : Nat) (h : n ≤ 1000000) : ∃ M : Array Value, M.size = n * 1 ∧
    ∀ w, (Instr.makeSlice 24 (.int .i64 0) (.int .i64 (n : Int))).run Tryz.prog w = .ok (.slice (some ⟨w.heap.size, 0, none⟩) 0 n) (w.alloc (.cells M 5)) := by
  obtain ⟨i0, hi0, hz0, hz1, hz2⟩ := info_parts info_u8
  refine ⟨madeCells #[.int .u8 0] n, by simp [madeCells], fun w => ?_⟩
  have hr := run_make (P := Tryz.prog) w 24 5 i0 _ Tryz.underlying24 hi0 hz0 .i64 .i64 0 (n : Int) (by omega) (by omega) (by rw [hz2]; omega) (by omega)
  rw [hz1, Nat.mul_one, Int.toNat_natCast] at hr
  exact hr
set_option maxRecDepth 100000 in
set_option maxHeartbeats 2000000 in
theorem rec_any (a b : ByteArray) (ha : a.size ≤ 140737488355328) (hb : b.size ≤ 140737488355328) (w : World) (hk : KAt w) :
    Calls Tryz.prog 45 #[.agg #[.string a, .string b]] w fun e w' => RecIn (a.toList, b.toList) w.heap.size e w' ∧ Bw w w' := by
  have hw0 : Bw w (w.alloc (.cells #[.string a, .string b] 42)) := Below.alloc (Below.refl _ _) (Nat.le_refl _) _
  have HP : Hid (∀ W, Bw (w.alloc (.cells #[.string a, .string b] 42)) W → W.cell? ⟨w.heap.size, 0, none⟩ = some (.string a) ∧ W.cell? ⟨w.heap.size, 1, none⟩ = some (.string b)) := fun W h => by
    have g := (h.block _ (by simp)).trans (World.alloc_heap_new w (.cells #[.string a, .string b] 42))
    exact ⟨cell_of_row W _ 0 _ _ _ g, cell_of_row W _ 1 _ _ _ g⟩
  have hsz0 : Hid ((w.alloc (.cells #[.string a, .string b] 42)).heap.size = w.heap.size + 1) := by show _ = _; simp
  have HK : Hid (KAt w) := hk
  clear hk
  by_cases hf : Px.fits (a.toList, b.toList) = 0
  · have HF : Hid (Px.fits (a.toList, b.toList) = 0) := hf
    obtain ⟨z, hz⟩ : ∃ z, Hid (Px.psize (a.toList, b.toList) = z) := ⟨_, rfl⟩
    have hzb : z ≤ 1064 := by rw [← hz.out]; exact Px.psize_le hf
    have hfo := Px.fits_ok hf
    have hka := (Px.key_ok hfo.1).2.2
    rw [Nm.size_toList] at hka
    have hkb : b.size ≤ 1024 := by have := hfo.2; rw [Nm.size_toList] at this; exact this
    clear hfo
    obtain ⟨M, hM, hmk0⟩ := made_none z (by omega)
    have hmk : ∀ w, (Instr.makeSlice 24 (.int .i64 0) (.int .i64 (z : Int))).run Tryz.prog w = .ok (.slice (some ⟨w.heap.size, 0, none⟩) 0 z) (w.alloc (.cells M 5)) := hmk0
    clear hmk0 hf
    have hde : Hid ((Px.dec z).length ≤ 1064) := by
      show _ ≤ _
      have h1 := Px.rcd_len (a.toList, b.toList)
      rw [hz.out] at h1
      unfold Px.rcd at h1
      rw [List.length_append, hz.out] at h1
      omega
    go_enter Tryz.func45, Tryz.ntmps45
    go_wp2_with (first
      | (go_at_call 59; refine (mbp_any a b ha hb _).mono ?_; rintro e w1 ⟨hA, hw1⟩; rw [HF.out] at hA; rcases hA with ⟨-, rfl⟩ | ⟨h, -⟩; rotate_left; exact absurd rfl h; obtain ⟨c1, c2⟩ := HP.out w1 hw1)
      | (go_at_call 60; refine (psize_any a b ha hb _ (HK.out.keep (hw0.trans hw1))).mono ?_; rintro e w2 ⟨rfl, hw2⟩; rw [hz.out]; refine Hid.out ?_))
    refine Lib.hid ?_
    have hszB : w.heap.size ≤ w2.heap.size := Nat.le_trans (hw0.trans hw1).size hw2.size
    have hT0 := tabB (B := w2.heap.size) HK.out (hw0.trans (hw1.trans hw2)) hszB
    have HT : Hid (∀ W, Below w2.heap.size w2 W → Lib.TabBelow Tryz.prog w2.heap.size W "internal/strconv.uint64pow10" .u64 Lib.pow10Tab) := fun W h => hT0.on h
    have HC : Hid (∀ W, Below w2.heap.size w2 W → W.cell? ⟨w.heap.size, 0, none⟩ = some (.string a) ∧ W.cell? ⟨w.heap.size, 1, none⟩ = some (.string b)) := fun W h => HP.out W (hw1.trans (hw2.trans h))
    clear hT0 c1 c2
    have hb0 : Below w2.heap.size w2 (w2.alloc (.cells M 5)) := Below.alloc (Below.refl _ _) (Nat.le_refl _) _
    have ho0 : (w2.alloc (.cells M 5)).ownsRow w2.heap.size 5 1 (.slice (some ⟨w2.heap.size, 0, none⟩) 0 z) ([] : Px.B).length (Px.cellsB []) := World.ownsRow_made w2 M z (Nat.le_refl _) (by unfold maxLen; omega) hM
    go_wp2_with (go_at_call 61; refine (appint_any w2.heap.size z (by omega) _ [] (by decide) _ ho0 hb0.size (HT.out _ hb0)).mono ?_; rintro e w3 ⟨v3, rfl, ho3, hb3⟩; rw [List.nil_append] at ho3; refine Hid.out ?_)
    refine Lib.hid ?_
    have hB3 : w2.heap.size ≤ w3.heap.size := Nat.le_trans hb0.size hb3.size
    have hbb3 : Below w2.heap.size w2 w3 := hb0.trans hb3
    obtain ⟨L3, hL3⟩ : ∃ l, Hid (Px.dec z = l) := ⟨_, rfl⟩
    rw [hL3.out] at ho3
    have hl3 : L3.length ≤ 1064 := by rw [← hL3.out]; exact hde.out
    clear hb3 hb0 ho0
    have hq3 : (w3.alloc (.cells #[.int .u8 32] 5)).heap[w3.heap.size]? = some (.cells #[.int .u8 ((((32 : UInt8)).toNat : Nat) : Int)] 5 (0, 0)) := heap_alloc_new w3 _
    have hoa3 := ho3.alloc (.cells #[.int .u8 32] 5)
    have hba3 : Below w2.heap.size w3 (w3.alloc (.cells #[.int .u8 32] 5)) := Below.alloc (Below.refl _ _) hB3 _
    clear ho3
    go_wp2_with (at_builtin; refine wpList_byte9 (by rfl) _ _ (by rfl) w2.heap.size 32 v3 L3 (by rfl) hoa3 w3.heap.size (by rfl) hq3 (by omega) (Nat.le_trans hB3 hba3.size) ?_; intro v4 w4 ho4 hb4; refine Hid.out ?_)
    refine Lib.hid ?_
    have hB4 : w2.heap.size ≤ w4.heap.size := Nat.le_trans hB3 (Nat.le_trans hba3.size hb4.size)
    have hbb4 : Below w2.heap.size w2 w4 := hbb3.trans (hba3.trans hb4)
    obtain ⟨L4, hL4⟩ : ∃ l : Px.B, Hid (L3 ++ [32] = l) := ⟨_, show L3 ++ [32] = _ from rfl⟩
    rw [hL4.out] at ho4
    have hl4 : L4.length ≤ 3064 := by rw [← hL4.out, List.length_append]; show _ + 1 ≤ _; omega
    clear hq3 hoa3 hba3 hb4 hbb3 hB3 hl3
    obtain ⟨c1, c2⟩ := HC.out w4 hbb4
    go_wp2_with (at_builtin; refine wpList_str9 (by rfl) _ _ (by rfl) w2.heap.size v4 L4 (by rfl) ho4 a (by rfl) (by omega) (by omega) hB4 ?_; intro v5 w5 ho5 hb5; refine Hid.out ?_)
    refine Lib.hid ?_
    have hB5 : w2.heap.size ≤ w5.heap.size := Nat.le_trans hB4 hb5.size
    have hbb5 : Below w2.heap.size w2 w5 := hbb4.trans hb5
    obtain ⟨L5, hL5⟩ : ∃ l, Hid (L4 ++ a.toList = l) := ⟨_, rfl⟩
    rw [hL5.out] at ho5
    have hl5 : L5.length ≤ 5064 := by rw [← hL5.out, List.length_append, Nm.size_toList]; omega
    clear c1 c2 hb5 hbb4 hB4 hl4 ho4
    have hq5 : (w5.alloc (.cells #[.int .u8 61] 5)).heap[w5.heap.size]? = some (.cells #[.int .u8 ((((61 : UInt8)).toNat : Nat) : Int)] 5 (0, 0)) := heap_alloc_new w5 _
    have hoa5 := ho5.alloc (.cells #[.int .u8 61] 5)
    have hba5 : Below w2.heap.size w5 (w5.alloc (.cells #[.int .u8 61] 5)) := Below.alloc (Below.refl _ _) hB5 _
    clear ho5
    go_wp2_with (at_builtin; refine wpList_byte9 (by rfl) _ _ (by rfl) w2.heap.size 61 v5 L5 (by rfl) hoa5 w5.heap.size (by rfl) hq5 (by omega) (Nat.le_trans hB5 hba5.size) ?_; intro v6 w6 ho6 hb6; refine Hid.out ?_)
    refine Lib.hid ?_
    have hB6 : w2.heap.size ≤ w6.heap.size := Nat.le_trans hB5 (Nat.le_trans hba5.size hb6.size)
    have hbb6 : Below w2.heap.size w2 w6 := hbb5.trans (hba5.trans hb6)
    obtain ⟨L6, hL6⟩ : ∃ l : Px.B, Hid (L5 ++ [61] = l) := ⟨_, show L5 ++ [61] = _ from rfl⟩
    rw [hL6.out] at ho6
    have hl6 : L6.length ≤ 7064 := by rw [← hL6.out, List.length_append]; show _ + 1 ≤ _; omega
    clear hq5 hoa5 hba5 hb6 hbb5 hB5 hl5
    obtain ⟨c1, c2⟩ := HC.out w6 hbb6
    go_wp2_with (at_builtin; refine wpList_str9 (by rfl) _ _ (by rfl) w2.heap.size v6 L6 (by rfl) ho6 b (by rfl) (by omega) (by omega) hB6 ?_; intro v7 w7 ho7 hb7; refine Hid.out ?_)
    refine Lib.hid ?_
    have hB7 : w2.heap.size ≤ w7.heap.size := Nat.le_trans hB6 hb7.size
    have hbb7 : Below w2.heap.size w2 w7 := hbb6.trans hb7
    obtain ⟨L7, hL7⟩ : ∃ l, Hid (L6 ++ b.toList = l) := ⟨_, rfl⟩
    rw [hL7.out] at ho7
    have hl7 : L7.length ≤ 9064 := by rw [← hL7.out, List.length_append, Nm.size_toList]; omega
    clear c1 c2 hb7 hbb6 hB6 hl6 ho6
    have hq7 : (w7.alloc (.cells #[.int .u8 10] 5)).heap[w7.heap.size]? = some (.cells #[.int .u8 ((((10 : UInt8)).toNat : Nat) : Int)] 5 (0, 0)) := heap_alloc_new w7 _
    have hoa7 := ho7.alloc (.cells #[.int .u8 10] 5)
    have hba7 : Below w2.heap.size w7 (w7.alloc (.cells #[.int .u8 10] 5)) := Below.alloc (Below.refl _ _) hB7 _
    clear ho7
    go_wp2_with (at_builtin; refine wpList_byte9 (by rfl) _ _ (by rfl) w2.heap.size 10 v7 L7 (by rfl) hoa7 w7.heap.size (by rfl) hq7 (by omega) (Nat.le_trans hB7 hba7.size) ?_; intro v8 w8 ho8 hb8; refine Hid.out ?_)
    refine Lib.hid ?_
    have hB8 : w2.heap.size ≤ w8.heap.size := Nat.le_trans hB7 (Nat.le_trans hba7.size hb8.size)
    have hbb8 : Below w2.heap.size w2 w8 := hbb7.trans (hba7.trans hb8)
    obtain ⟨L8, hL8⟩ : ∃ l : Px.B, Hid (L7 ++ [10] = l) := ⟨_, show L7 ++ [10] = _ from rfl⟩
    rw [hL8.out] at ho8
    have hl8 : L8.length ≤ 11064 := by rw [← hL8.out, List.length_append]; show _ + 1 ≤ _; omega
    clear hq7 hoa7 hba7 hb8 hbb7 hB7 hl7
    go_wp2
    go_ret
    refine ⟨.inr ⟨HF.out, v8, rfl, ?_⟩, Below.trans (hw0.trans (hw1.trans hw2)) (hbb8.mono hszB)⟩
    have hfin : Px.rcd (a.toList, b.toList) = L8 := by
      rw [← hL8.out, ← hL7.out, ← hL6.out, ← hL5.out, ← hL4.out, ← hL3.out]
      unfold Px.rcd
      rw [hz.out]
      simp
    rw [hfin]
    exact own_lower9 ho8 hszB
  · have HF : Hid (Px.fits (a.toList, b.toList) ≠ 0) := hf
    clear hf
    obtain ⟨er, her⟩ : ∃ er, Hid (Px.fits (a.toList, b.toList) = er) := ⟨_, rfl⟩
    go_enter Tryz.func45, Tryz.ntmps45
    go_wp2_with (go_at_call 59; refine (mbp_any a b ha hb _).mono ?_; rintro e w1 ⟨hA, hw1⟩; rcases hA with ⟨h, -⟩ | ⟨-, rfl⟩; exact absurd h HF.out; rw [her.out]; unfold thrown)
    refine ⟨rfl, .inl ⟨HF.out, ?_⟩, hw0.trans hw1⟩
    rw [her.out]; rfl
end Go.Proofs.YtldkhbkgmiicbabGreatDoor

/- The program's own Record, as landed at 7a0984bd. -/
namespace Go.Proofs.YtldkhbkgmiicbabGreatDoor
open Go.RowKit Go.Deep
set_option linter.unusedVariables false
set_option linter.unusedSimpArgs false

theorem own_set9 {W : World} {base g : Nat} {e : TypeId} {s n : Nat} {v u : Value} {xs : List Value} (h : W.ownsRow base e s v n xs) (hg : g < base) : (W.setCell ⟨g, 0, none⟩ u).ownsRow base e s v n xs := by
  rcases h with ⟨h0, h1 | ⟨g', cap, cur, h1, h2, h3, h4⟩⟩
  · exact ⟨h0, .inl h1⟩
  · exact ⟨h0, .inr ⟨g', cap, cur, h1, h2, (Below.heap_setCell W ⟨g, 0, none⟩ u g' (by show g' ≠ g; omega)).trans h3, h4⟩⟩
/-- a variable of one cell in a block of its own -/
def VarAt (w : World) (g : Nat) (t : TypeId) (v : Value) : Prop := w.heap[g]? = some (.cells #[v] t (0, 0))
theorem VarAt.keep {w w' : World} {g B : Nat} {t : TypeId} {v : Value} (h : VarAt w g t v) (k : Below B w w') (hB : g < B) : VarAt w' g t v := (k.block g hB).trans h
theorem VarAt.cell {w : World} {g : Nat} {t : TypeId} {v : Value} (h : VarAt w g t v) : w.cell? ⟨g, 0, none⟩ = some v := cell_of_row w g 0 _ _ _ h
theorem VarAt.free {w : World} {g : Nat} {t : TypeId} {v : Value} (h : VarAt w g t v) : w.frozen? ⟨g, 0, none⟩ = false := by
  unfold VarAt at h
  simp [World.frozen?, h]
theorem VarAt.lt {w : World} {g : Nat} {t : TypeId} {v : Value} (h : VarAt w g t v) : g < w.heap.size := (Array.getElem?_eq_some_iff.1 h).1
theorem VarAt.new (w : World) (v : Value) (t : TypeId) : VarAt (w.alloc (.cells #[v] t)) w.heap.size t v := heap_alloc_new w _
theorem VarAt.more {w : World} {g : Nat} {t : TypeId} {v : Value} (h : VarAt w g t v) (o : Obj) : VarAt (w.alloc o) g t v := (Below.heap_alloc w o g h.lt).trans h
theorem VarAt.set {w : World} {g : Nat} {t : TypeId} {v : Value} (h : VarAt w g t v) (u : Value) : VarAt (w.setCell ⟨g, 0, none⟩ u) g t u := by
  unfold VarAt at h ⊢
  unfold World.setCell
  show (w.heap.modify g _)[g]? = _
  rw [Array.getElem?_modify, if_pos rfl, h]
  rfl
theorem own_slice {W : World} {base : Nat} {e : TypeId} {s n : Nat} {v : Value} {xs : List Value} (h : W.ownsRow base e s v n xs) : ∃ A c, v = .slice A n c := by
  rcases h with ⟨h0, ⟨h1, h2⟩ | ⟨g', cap, cur, h1, h2⟩⟩
  · exact ⟨none, 0, by rw [h1, h2]⟩
  · exact ⟨_, _, h1⟩
theorem VarAt.other {w : World} {g g' : Nat} {t : TypeId} {v : Value} (h : VarAt w g t v) (u : Value) (hne : g ≠ g') : VarAt (w.setCell ⟨g', 0, none⟩ u) g t v := (Below.heap_setCell w ⟨g', 0, none⟩ u g hne).trans h
/-- what Record's work does -/
def Rec1 (p : Px.Pr) (g1 : Nat) (W : World) (er : Nat) (w' : World) : Prop := er = Px.fits p ∧ Bx (· = g1) W w' ∧ ∃ v, VarAt w' g1 24 v ∧ w'.ownsRow W.heap.size 5 1 v (Px.recF p).1.length (Px.cellsB (Px.recF p).1)
/-- what Record answers -/
def RecOwn (p : Px.Pr) (base : Nat) (e : Ending) (w' : World) : Prop := ∃ v, e = .returned (.tuple #[v, .int .i64 ((Px.recF p).2 : Int)]) ∧ w'.ownsRow base 5 1 v (Px.recF p).1.length (Px.cellsB (Px.recF p).1)
theorem alloc_size9 (w : World) (o : Obj) : (w.alloc o).heap.size = w.heap.size + 1 := by simp
end Go.Proofs.YtldkhbkgmiicbabGreatDoor

/- The program's own mustRise and Put, as landed at 7a0984bd. -/
namespace Go.Proofs.YtldkhbkgmiicbabGreatDoor
open Go.RowKit Go.Deep
set_option linter.unusedVariables false
set_option linter.unusedSimpArgs false

/-- what is asked of a key behind a list -/
def Px.rise (L : List Px.Pr) (k : Px.B) : Nat := if Px.behind (L.getLast?.map (·.1)) k = true then 0 else 92
set_option maxRecDepth 100000 in
set_option maxHeartbeats 200000 in
theorem rise_none (A : Option Addr) (cap : Nat) (a b : ByteArray) (w : World) :
    Calls Tryz.prog 46 #[.slice A 0 cap, .agg #[.string a, .string b]] w fun e w' => e = .returned (.tuple #[]) ∧ Bw w w' := by
  obtain ⟨W, hW⟩ : ∃ W, Hid (w.alloc (.cells #[.string a, .string b] 42) = W) := ⟨_, rfl⟩
  have hw0 : Bw w W := by rw [← hW.out]; exact Below.alloc (Below.refl _ _) (Nat.le_refl _) _
  go_enter Tryz.func46, Tryz.ntmps46
  go_wp2
  rw [hW.out]
  go_quiet ((go_at_call 62; exact Calls.quiet_of_same (must_yes _ rfl _ _)))
  refine bodyPost_end (results_none rfl _ _ _) rfl ?_
  exact ⟨rfl, hw0.trans (Bw.drewN _ _)⟩
set_option maxRecDepth 100000 in
set_option maxHeartbeats 400000 in
theorem rise_yes (g o n cap : Nat) (hn : n ≤ 4611686018427387904) (k a b : ByteArray) (w : World) (hc : w.cell? ⟨g, o + n * 2, none⟩ = some (.string k)) (hls : Op.bytesLess k.toList a.toList = true) :
    Calls Tryz.prog 46 #[.slice (some ⟨g, o, none⟩) (n + 1) cap, .agg #[.string a, .string b]] w fun e w' => e = .returned (.tuple #[]) ∧ Bw w w' := by
  obtain ⟨W, hW⟩ : ∃ W, Hid (w.alloc (.cells #[.string a, .string b] 42) = W) := ⟨_, rfl⟩
  have hw0 : Bw w W := by rw [← hW.out]; exact Below.alloc (Below.refl _ _) (Nat.le_refl _) _
  have hc1 : W.cell? ⟨g, o + n * 2, none⟩ = some (.string k) := (hw0.cell (p := ⟨g, o + n * 2, none⟩) (block_lt_of_cell hc)).trans hc
  have hg : W.heap[w.heap.size]? = some (.cells #[.string a, .string b] 42 (0, 0)) := by rw [← hW.out]; exact World.alloc_heap_new w _
  have hc2 : W.cell? ⟨w.heap.size, 0, none⟩ = some (.string a) := cell_of_row _ _ 0 _ _ _ hg
  have en : ((n : Int) + 1 == 0) = false := beq_eq_false_iff_ne.2 (by omega)
  clear hg hc
  go_enter Tryz.func46, Tryz.ntmps46
  go_wp2
  rw [hW.out]
  go_quiet ((go_at_call 62; exact Calls.quiet_of_same (must_yes _ (by first | rfl | assumption) _ _)))
  refine bodyPost_end (results_none rfl _ _ _) rfl ?_
  exact ⟨rfl, hw0.trans (Bw.drewN _ _)⟩
end Go.Proofs.YtldkhbkgmiicbabGreatDoor

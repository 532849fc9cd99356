/- Layer 19: the document's own air in memory; its calls that only read. -/
import Derived.Test.YtjjnbpbbjaabeaaTt
import Derived.Laws.StructEq
namespace Go.Proofs.Ytjjnbpbbjaabeaa
open Go.RowKit Go.Deep
set_option linter.unusedVariables false
set_option linter.unusedSimpArgs false

def flat2 : List (Int × Int) → List Value
  | [] => []
  | r :: L => .int .i64 r.1 :: .int .i64 r.2 :: flat2 L
theorem flat2_append : ∀ a b, flat2 (a ++ b) = flat2 a ++ flat2 b
  | [], b => rfl
  | p :: a, b => by simp only [List.cons_append, flat2, flat2_append a b]
theorem flat2_len : ∀ a, (flat2 a).length = a.length * 2
  | [] => rfl
  | p :: a => by simp only [flat2, List.length_cons, flat2_len a]; omega
theorem flat2_get : ∀ (a : List (Int × Int)) (j : Nat) (p : Int × Int), a[j]? = some p → (flat2 a)[j * 2]? = some (.int .i64 p.1) ∧ (flat2 a)[j * 2 + 1]? = some (.int .i64 p.2)
  | [], j, p, h => by simp at h
  | q :: a, 0, p, h => by simp at h; subst h; exact ⟨rfl, rfl⟩
  | q :: a, j + 1, p, h => by
    have := flat2_get a j p (by simpa using h)
    rw [show (j + 1) * 2 = j * 2 + 1 + 1 by omega]
    simpa [flat2] using this
/-- pairs of one's own -/
def OffAt (w : World) (v : Value) (Z : List (Int × Int)) : Prop := w.ownsRow 0 63 2 v Z.length (flat2 Z)
namespace OffAt
variable {w w' : World} {v : Value} {Z : List (Int × Int)}
theorem keepx {P : Nat → Prop} (h : OffAt w v Z) (k : Bx P w w') (hP : ∀ b, v.ownBlock = some b → ¬ P b) : OffAt w' v Z := own_keepx19 h k hP
theorem keep (h : OffAt w v Z) (k : Bw w w') : OffAt w' v Z := own_keep h k
theorem lt (h : OffAt w v Z) : ∀ b, v.ownBlock = some b → b < w.heap.size := fun b hb => by
  rcases h.2 with ⟨rfl, _⟩ | ⟨g, cap, cur, rfl, _, h1, _⟩
  · cases hb
  · cases hb; exact (Array.getElem?_eq_some_iff.1 h1).1
theorem form (h : OffAt w v Z) : ∃ A c, v = .slice A Z.length c := by
  rcases h.2 with ⟨rfl, h0⟩ | ⟨g, cap, cur, rfl, _⟩
  · exact ⟨none, 0, by rw [h0]⟩
  · exact ⟨_, _, rfl⟩
theorem type (h : OffAt w v Z) : ∀ b, v.ownBlock = some b → ∃ cur, w.heap[b]? = some (.cells cur 63 (0, 0)) := fun b hb => by
  rcases h.2 with ⟨rfl, _⟩ | ⟨g, cap, cur, rfl, _, h1, _⟩
  · cases hb
  · cases hb; exact ⟨cur, h1⟩
theorem nth {k : Nat} {p : Int × Int} (h : OffAt w v Z) (hk : Z[k]? = some p) : ∃ b c, v = .slice (some ⟨b, 0, none⟩) Z.length c ∧ ∀ W, Bw w W → W.cell? ⟨b, k * 2, none⟩ = some (.int .i64 p.1) ∧ W.cell? ⟨b, k * 2 + 1, none⟩ = some (.int .i64 p.2) := by
  have hl := (List.getElem?_eq_some_iff.1 hk).1
  rcases h.2 with ⟨rfl, h0⟩ | ⟨g, cap, cur, rfl, _, h1, h2, h3, h4, h5⟩
  · omega
  · refine ⟨g, cap, rfl, fun W kw => ?_⟩
    obtain ⟨g1, g2⟩ := flat2_get Z k p hk
    rw [← h5] at g1 g2
    rw [List.getElem?_take, if_pos (by omega), Array.getElem?_toList] at g1 g2
    have hb := (kw.block g (Array.getElem?_eq_some_iff.1 h1).1).trans h1
    exact ⟨(cell_of_row W g _ cur _ _ hb).trans g1, (cell_of_row W g _ cur _ _ hb).trans g2⟩
end OffAt
def rcells (n : Nat) (lv ov : Value) : Array Value := #[.int .i64 (n : Int), lv, ov]
def rIn (g : Nat) (lv ov : Value) (b : Nat) : Prop := b = g ∨ lv.ownBlock = some b ∨ ov.ownBlock = some b
/-- the document's air in block g, its datagrams at lv, its cut ways at ov -/
structure RefX (w : World) (g : Nat) (lv ov : Value) (E : List Raw) (Z : List (Int × Int)) (S : Ai.St) : Prop where
  cells : w.heap[g]? = some (.cells (rcells S.n lv ov) 57 (0, 0))
  und : UndAt w lv E
  dgs : DgsV w E S.L
  off : OffAt w ov Z
  cutz : ∀ p q, S.cut p q = decide ((p, q) ∈ Z)
  few : Z.length ≤ S.m
  ok : S.Ok
  sep : EIn (fun b => ¬ rIn g lv ov b) E
namespace RefX
variable {w w' : World} {g : Nat} {lv ov : Value} {E : List Raw} {Z : List (Int × Int)} {S : Ai.St}
theorem lt (h : RefX w g lv ov E Z S) : g < w.heap.size := (Array.getElem?_eq_some_iff.1 h.cells).1
theorem len (h : RefX w g lv ov E Z S) : E.length = S.L.length := h.dgs.1
theorem nel (h : RefX w g lv ov E Z S) : lv.ownBlock ≠ some g := fun e => by
  rcases h.und with ⟨rfl, _⟩ | ⟨b, c, rfl, ⟨cur, h1, _⟩⟩
  · cases e
  · have e' : b = g := by simpa [Value.ownBlock] using e
    have h2 := h.cells
    rw [← e', h1] at h2
    simp only [Option.some.injEq, Obj.cells.injEq] at h2
    exact absurd h2.2.1 (by decide)
theorem neo (h : RefX w g lv ov E Z S) : ov.ownBlock ≠ some g := fun e => by
  obtain ⟨cur, h1⟩ := h.off.type g e
  have h2 := h.cells
  rw [h1] at h2
  simp only [Option.some.injEq, Obj.cells.injEq] at h2
  exact absurd h2.2.1 (by decide)
theorem nelo (h : RefX w g lv ov E Z S) : ∀ b, lv.ownBlock = some b → ov.ownBlock ≠ some b := fun b hb e => by
  obtain ⟨cur, h1⟩ := h.off.type b e
  rcases h.und with ⟨rfl, _⟩ | ⟨b', c, rfl, ⟨cur', h2, _⟩⟩
  · cases hb
  · have e' : b' = b := by simpa [Value.ownBlock] using hb
    rw [e', h1] at h2
    simp only [Option.some.injEq, Obj.cells.injEq] at h2
    exact absurd h2.2.1 (by decide)
theorem keep (h : RefX w g lv ov E Z S) (k : Bw w w') : RefX w' g lv ov E Z S := ⟨(k.block g h.lt).trans h.cells, h.und.keep k, h.dgs.keep k, h.off.keep k, h.cutz, h.few, h.ok, h.sep⟩
theorem keepx {P : Nat → Prop} (h : RefX w g lv ov E Z S) (k : Bx P w w') (h1 : ∀ b, rIn g lv ov b → ¬ P b) (h2 : EIn (fun b => ¬ P b) E) : RefX w' g lv ov E Z S :=
  ⟨(k.block g h.lt (h1 g (.inl rfl))).trans h.cells, h.und.keepx k (fun b hb => h1 b (.inr (.inl hb))), h.dgs.keepx k h2, h.off.keepx k (fun b hb => h1 b (.inr (.inr hb))), h.cutz, h.few, h.ok, h.sep⟩
theorem inlt (h : RefX w g lv ov E Z S) : ∀ b, rIn g lv ov b → b < w.heap.size := fun b hb => by
  rcases hb with rfl | hb | hb
  · exact h.lt
  · exact h.und.lt b hb
  · exact h.off.lt b hb
theorem c0 (h : RefX w g lv ov E Z S) : w.cell? ⟨g, 0, none⟩ = some (.int .i64 (S.n : Int)) := cell_of_row w g 0 _ _ _ h.cells
theorem c1 (h : RefX w g lv ov E Z S) : w.cell? ⟨g, 1, none⟩ = some lv := cell_of_row w g 1 _ _ _ h.cells
theorem c2 (h : RefX w g lv ov E Z S) : w.cell? ⟨g, 2, none⟩ = some ov := cell_of_row w g 2 _ _ _ h.cells
theorem form (h : RefX w g lv ov E Z S) : ∃ A c, lv = .slice A S.L.length c := by rw [← h.len]; exact h.und.form
end RefX
set_option maxRecDepth 100000 in
theorem rparty_any {w : World} {g : Nat} {lv ov : Value} {E : List Raw} {Z : List (Int × Int)} {S : Ai.St} (h : RefX w g lv ov E Z S) (p : Int) :
    Calls Try.prog 36 #[.pointer (some ⟨g, 0, none⟩), .int .i64 p] w fun e w' => e = .returned (.bool (S.is p)) ∧ w' = w := by
  have c := h.c0
  unfold Ai.St.is
  obtain ⟨n, hn⟩ : ∃ n, S.n = n := ⟨_, rfl⟩
  rw [hn] at c ⊢
  clear h hn
  by_cases h0 : (0 : Int) ≤ p
  · have d0 : decide ((0 : Int) ≤ p) = true := decide_eq_true h0
    rw [d0]
    go_enter Try.func36, Try.ntmps36
    go_wp2
    go_ret
    exact ⟨rfl, rfl⟩
  · have d0 : decide ((0 : Int) ≤ p) = false := decide_eq_false h0
    rw [d0]
    go_enter Try.func36, Try.ntmps36
    go_wp2
    go_ret
    exact ⟨rfl, rfl⟩
theorem rcount_any {w : World} {g : Nat} {lv ov : Value} {E : List Raw} {Z : List (Int × Int)} {S : Ai.St} (h : RefX w g lv ov E Z S) :
    Calls Try.prog 30 #[.pointer (some ⟨g, 0, none⟩)] w fun e w' => e = .returned (.int .i64 (S.L.length : Int)) ∧ w' = w := by
  have c := h.c1
  obtain ⟨A, cap, rfl⟩ := h.form
  obtain ⟨n, hn⟩ : ∃ n, S.L.length = n := ⟨_, rfl⟩
  rw [hn] at c ⊢
  clear h hn
  go_enter Try.func30, Try.ntmps30
  go_wp2
  go_ret
  exact ⟨rfl, rfl⟩
theorem eqB2 (a b p q : Int) : (a == p && b == q) = decide (a = p ∧ b = q) := by
  by_cases h1 : a = p <;> by_cases h2 : b = q <;> simp [h1, h2]
theorem sizeI (w : World) : (sizeOf 3).run Try.prog w = .ok 1 w := by kernel_rfl
theorem equalInI (d : Nat) (a b : Int) (w : World) : (Op.equalIn (d + 1) 3 (.int .i64 a) (.int .i64 b)).run Try.prog w = .ok (a == b) w := by
  simp [Op.equalIn, run_underlying Try.underlying3]
theorem eql2 (a b p q : Int) (w : World) : (binOp .eql 63 (.agg #[.int .i64 a, .int .i64 b]) (.agg #[.int .i64 p, .int .i64 q])).run Try.prog w = .ok (.bool (decide (a = p ∧ b = q))) w := by
  rw [← eqB2, run_eql_struct]
  have h : (Op.equalIn (9999 + 1) 63 (.agg #[.int .i64 a, .int .i64 b]) (.agg #[.int .i64 p, .int .i64 q])).run Try.prog w = .ok (a == p && b == q) w := by
    unfold Op.equalIn
    simp [run_underlying Try.underlying63, sizeI, List.range', part]
    rw [equalInI 9998 a p w]
    cases h1 : (a == p)
    · simp
    · simp [equalInI 9998 b q w]
      cases h2 : (b == q)
      · simpa using h2
      · simpa using h2
  rw [h]; rfl
theorem rowCells2 (a b : Int) : (Try.prog.info? 63).map (·.size) = some (#[Value.int .i64 a, Value.int .i64 b]).size := by kernel_rfl
theorem range2 {w : World} {b k : Nat} {p : Int × Int} (h : w.cell? ⟨b, k * 2, none⟩ = some (.int .i64 p.1) ∧ w.cell? ⟨b, k * 2 + 1, none⟩ = some (.int .i64 p.2)) : w.rangeAt b (k * 2) [.int .i64 p.1, .int .i64 p.2] := fun j v hv => by
  match j with
  | 0 => cases hv; exact h.1
  | 1 => cases hv; exact h.2
  | j + 2 => simp at hv
set_option maxRecDepth 100000 in
set_option maxHeartbeats 4000000 in
theorem ris_any {w : World} {g : Nat} {lv ov : Value} {E : List Raw} {Z : List (Int × Int)} {S : Ai.St} (h : RefX w g lv ov E Z S) (hm : S.m ≤ 1000000) (p q : Int) :
    Calls Try.prog 32 #[.pointer (some ⟨g, 0, none⟩), .int .i64 p, .int .i64 q] w fun e w' => e = .returned (.bool (S.cut p q)) ∧ w' = w := by
  have c2 := h.c2
  have hcz := h.cutz p q
  have HO : Hid (OffAt w ov Z) := h.off
  obtain ⟨A, c, rfl⟩ := h.off.form
  obtain ⟨n, hn⟩ : ∃ n, Hid (Z.length = n) := ⟨_, rfl⟩
  have hfew : n ≤ 1000000 := by have h1 := h.few; have h2 := hn.out; omega
  rw [hn.out] at c2
  have heq := eql2
  obtain ⟨bb, hbb⟩ : ∃ bb, Hid (S.cut p q = bb) := ⟨_, rfl⟩
  rw [hbb.out] at hcz ⊢
  have HZ : Hid (bb = decide ((p, q) ∈ Z)) := hcz
  clear h hcz hbb
  go_enter Try.func32, Try.ntmps32
  go_upto_region 2 with fail
  go_loopw [7] (fun s7 wr => ∃ k : Nat, k ≤ n ∧ s7 = .int .i64 (k : Int) ∧ Hid ((p, q) ∉ Z.take k) ∧ wr = w) (fun s7 _ => n - (intOf s7).toNat)
  case atStart => exact ⟨0, Nat.zero_le _, rfl, (by show _ ∉ _; simp), rfl⟩
  case round =>
    obtain ⟨k, hk, rfl, hno, rfl⟩ := hrel
    have k0 : (0 : Int) ≤ (k : Int) := Int.natCast_nonneg _
    by_cases hlt : k < n
    · have k1 : (k : Int) < (n : Int) := by omega
      have hkZ : k < Z.length := by rw [hn.out]; exact hlt
      obtain ⟨b, c', e1, hc⟩ := HO.out.nth (List.getElem?_eq_getElem hkZ)
      simp only [Value.slice.injEq] at e1
      obtain ⟨eA, -, -⟩ := e1
      subst eA
      have hr := range2 (hc wr (Bw.refl _))
      obtain ⟨⟨x, y⟩, hxy⟩ : ∃ z, Z[k] = z := ⟨_, rfl⟩
      rw [hxy] at hr
      have hZk : Hid (Z.take (k + 1) = Z.take k ++ [(x, y)]) := by
        refine (?_ : _ = _)
        rw [List.take_add_one, List.getElem?_eq_getElem hkZ, hxy]; rfl
      clear hc hxy
      by_cases hm2 : x = p ∧ y = q
      · have hb : Hid (bb = true) := by
          refine (?_ : _ = _)
          rw [HZ.out, decide_eq_true_eq, ← hm2.1, ← hm2.2]
          exact List.mem_of_mem_take (i := k + 1) (by rw [hZk.out]; simp)
        have d1 : decide (x = p ∧ y = q) = true := decide_eq_true hm2
        clear hm2 hkZ hlt
        go_wp2_with (refine wpList_load_mid rfl 63 _ rfl b (k * 2) (by rfl) [.int .i64 x, .int .i64 y] _ hr Try.underlying63 rfl (rowCells2 x y) ?_)
        go_ret
        exact ⟨by rw [hb.out] <;> rfl, rfl⟩
      · have hno2 : Hid ((p, q) ∉ Z.take (k + 1)) := by
          show _ ∉ _
          rw [hZk.out, List.mem_append]
          rintro (h1 | h1)
          · exact hno.out h1
          · simp only [List.mem_singleton, Prod.mk.injEq] at h1
            exact hm2 ⟨h1.1.symm, h1.2.symm⟩
        have d1 : decide (x = p ∧ y = q) = false := decide_eq_false hm2
        clear hm2 hkZ hlt
        go_wp2_with (refine wpList_load_mid rfl 63 _ rfl b (k * 2) (by rfl) [.int .i64 x, .int .i64 y] _ hr Try.underlying63 rfl (rowCells2 x y) ?_)
        go_roundw
        case rel => exact ⟨k + 1, by omega, by go_num, hno2, by first | rfl | trivial⟩
        case measure => simp [intOf]; omega
    · obtain rfl : k = n := by omega
      have hb : Hid (bb = false) := by
        refine (?_ : _ = _)
        rw [HZ.out, decide_eq_false_iff_not]
        have h1 := hno.out
        rw [← hn.out, List.take_length] at h1
        exact h1
      clear hlt
      go_wp2
      go_ret
      exact ⟨by rw [hb.out] <;> rfl, rfl⟩
end Go.Proofs.Ytjjnbpbbjaabeaa

/- Layer 15: records in memory; Clone, copied, sizeOf, packed. -/
import Derived.Test.YtppknadflmjefaaWD
namespace Go.Proofs.Ytppknadflmjefaa
open Go.RowKit Go.Deep Go.Maps
set_option linter.unusedVariables false
set_option linter.unusedSimpArgs false

/-- a slice of these bytes -/
def RowV (w : World) (v : Value) (l : List Nat) : Prop := ∃ A c, v = .slice A l.length c ∧ l.length ≤ c ∧ (A = none → c = 0) ∧ l.length ≤ 140737488355328 ∧ RowAt w A l.length (Jl.rowL l)
theorem RowV.keep {w w' : World} {v : Value} {l : List Nat} (h : RowV w v l) (k : Bw w w') : RowV w' v l := by
  obtain ⟨A, c, e, h1, h2, h3, h4⟩ := h
  exact ⟨A, c, e, h1, h2, h3, h4.keep k⟩
/-- the blocks of a slice's cells are such -/
def VIn (Q : Nat → Prop) (v : Value) : Prop := ∀ b o n c, v = .slice (some ⟨b, o, none⟩) n c → 0 < n → Q b
def RIn (Q : Nat → Prop) (vs : List Value) : Prop := ∀ v ∈ vs, VIn Q v
theorem RowV.keepx {P : Nat → Prop} {w w' : World} {v : Value} {l : List Nat} (h : RowV w v l) (k : Bx P w w') (hv : VIn (fun b => ¬ P b) v) : RowV w' v l := by
  obtain ⟨A, c, rfl, h1, h2, h3, h4⟩ := h
  exact ⟨A, c, rfl, h1, h2, h3, h4.keepx k (fun b o e h0 => hv b o _ _ (by rw [e]) h0)⟩
theorem RowV.byt {w : World} {v : Value} {l : List Nat} (h : RowV w v l) : Jl.Byt l := by
  obtain ⟨A, c, e, h1, h2, h3, h4⟩ := h
  intro b hb
  obtain ⟨i, hi, rfl⟩ := List.getElem_of_mem hb
  have := (h4.2 i).2
  unfold Jl.rowL at this
  rw [List.getD_eq_getElem?_getD, List.getElem?_eq_getElem hi, Option.getD_some] at this
  omega
theorem RowV.low {w : World} {v : Value} {l : List Nat} (h : RowV w v l) : VIn (fun b => b < w.heap.size) v := by
  obtain ⟨A, c, rfl, h1, h2, h3, h4⟩ := h
  intro b o n c' e h0
  cases e
  exact h4.lt h0
def RowsV (w : World) (vs : List Value) (L : List (List Nat)) : Prop := vs.length = L.length ∧ ∀ (i : Nat) (v : Value) (l : List Nat), vs[i]? = some v → L[i]? = some l → RowV w v l
theorem RowsV.keep {w w' : World} {vs : List Value} {L : List (List Nat)} (h : RowsV w vs L) (k : Bw w w') : RowsV w' vs L := ⟨h.1, fun i v l h1 h2 => (h.2 i v l h1 h2).keep k⟩
theorem RowsV.keepx {P : Nat → Prop} {w w' : World} {vs : List Value} {L : List (List Nat)} (h : RowsV w vs L) (k : Bx P w w') (hv : RIn (fun b => ¬ P b) vs) : RowsV w' vs L :=
  ⟨h.1, fun i v l h1 h2 => (h.2 i v l h1 h2).keepx k (hv v (List.mem_of_getElem? h1))⟩
theorem RowsV.nil (w : World) : RowsV w [] [] := ⟨rfl, fun i v l h _ => by simp at h⟩
theorem RowsV.append {w : World} {vs vs' : List Value} {L L' : List (List Nat)} (h : RowsV w vs L) (h' : RowsV w vs' L') : RowsV w (vs ++ vs') (L ++ L') := by
  refine ⟨by rw [List.length_append, List.length_append, h.1, h'.1], fun i v l h1 h2 => ?_⟩
  by_cases e : i < vs.length
  · rw [List.getElem?_append_left e] at h1
    rw [List.getElem?_append_left (by rw [← h.1]; exact e)] at h2
    exact h.2 i v l h1 h2
  · rw [List.getElem?_append_right (by omega)] at h1
    rw [List.getElem?_append_right (by rw [← h.1]; omega), ← h.1] at h2
    exact h'.2 _ v l h1 h2
theorem RowsV.one {w : World} {v : Value} {l : List Nat} (h : RowV w v l) : RowsV w [v] [l] := ⟨rfl, fun i v' l' h1 h2 => by
  obtain rfl : i = 0 := by have := (List.getElem?_eq_some_iff.1 h1).1; simp at this; exact this
  cases h1; cases h2; exact h⟩
theorem RowsV.low {w : World} {vs : List Value} {L : List (List Nat)} (h : RowsV w vs L) : RIn (fun b => b < w.heap.size) vs := fun v hv => by
  obtain ⟨i, hi, rfl⟩ := List.getElem_of_mem hv
  have hi' : i < L.length := h.1 ▸ hi
  exact (h.2 i _ (L[i]'hi') (List.getElem?_eq_getElem hi) (List.getElem?_eq_getElem hi')).low
theorem RowsV.byt {w : World} {vs : List Value} {L : List (List Nat)} (h : RowsV w vs L) : ∀ r ∈ L, Jl.Byt r := fun r hr => by
  obtain ⟨i, hi, rfl⟩ := List.getElem_of_mem hr
  have hi' : i < vs.length := h.1 ▸ hi
  exact (h.2 i (vs[i]'hi') _ (List.getElem?_eq_getElem hi') (List.getElem?_eq_getElem hi)).byt
theorem RIn.append {Q : Nat → Prop} {vs vs' : List Value} (h : RIn Q vs) (h' : RIn Q vs') : RIn Q (vs ++ vs') := fun v hv => (List.mem_append.1 hv).elim (h v) (h' v)
theorem RIn.mono {Q Q' : Nat → Prop} {vs : List Value} (h : RIn Q vs) (k : ∀ b, Q b → Q' b) : RIn Q' vs := fun v hv b o n c e h0 => k b (h v hv b o n c e h0)
/-- a slice of slices -/
structure MatV (w : World) (A : Option Addr) (n : Nat) (vs : List Value) (L : List (List Nat)) : Prop where
  len : vs.length = n
  cells : n = 0 ∨ ∃ b off, A = some ⟨b, off, none⟩ ∧ ∀ (i : Nat) (v : Value), vs[i]? = some v → w.cell? ⟨b, off + i, none⟩ = some v
  rows : RowsV w vs L
theorem MatV.keep {w w' : World} {A : Option Addr} {n : Nat} {vs : List Value} {L : List (List Nat)} (h : MatV w A n vs L) (k : Bw w w') : MatV w' A n vs L := by
  refine ⟨h.len, ?_, h.rows.keep k⟩
  rcases h.cells with h0 | ⟨b, off, e, hc⟩
  · exact .inl h0
  · exact .inr ⟨b, off, e, fun i v hv => (k.cell (p := ⟨b, off + i, none⟩) (block_lt_of_cell (hc i v hv))).trans (hc i v hv)⟩
theorem MatV.keepx {P : Nat → Prop} {w w' : World} {A : Option Addr} {n : Nat} {vs : List Value} {L : List (List Nat)} (h : MatV w A n vs L) (k : Bx P w w') (hA : ∀ b o, A = some ⟨b, o, none⟩ → 0 < n → ¬ P b) (hv : RIn (fun b => ¬ P b) vs) : MatV w' A n vs L := by
  refine ⟨h.len, ?_, h.rows.keepx k hv⟩
  rcases h.cells with h0 | ⟨b, off, e, hc⟩
  · exact .inl h0
  · by_cases h0 : n = 0
    · exact .inl h0
    · exact .inr ⟨b, off, e, fun i v hv => (World.cell?_of_block (w := w) (a := ⟨b, off + i, none⟩) (k.block b (block_lt_of_cell (hc i v hv)) (hA b off e (by omega)))).trans (hc i v hv)⟩
theorem MatV.low {w : World} {A : Option Addr} {n : Nat} {vs : List Value} {L : List (List Nat)} (h : MatV w A n vs L) {b o : Nat} (e : A = some ⟨b, o, none⟩) (h0 : 0 < n) : b < w.heap.size := by
  rcases h.cells with h1 | ⟨b', off, e', hc⟩
  · omega
  · rw [e'] at e; cases e
    have hl : 0 < vs.length := by rw [h.len]; exact h0
    exact block_lt_of_cell (hc 0 (vs[0]'hl) (List.getElem?_eq_getElem hl))
theorem MatV.lenL {w : World} {A : Option Addr} {n : Nat} {vs : List Value} {L : List (List Nat)} (h : MatV w A n vs L) : L.length = n := by rw [← h.rows.1, h.len]
theorem MatV.at {w : World} {A : Option Addr} {n : Nat} {vs : List Value} {L : List (List Nat)} (h : MatV w A n vs L) {k : Nat} (hk : k < n) : ∃ b off A' c, A = some ⟨b, off, none⟩ ∧ w.cell? ⟨b, off + k, none⟩ = some (.slice A' (L[k]'(by rw [h.lenL]; exact hk)).length c) ∧ (L[k]'(by rw [h.lenL]; exact hk)).length ≤ c ∧ (A' = none → c = 0) ∧ (L[k]'(by rw [h.lenL]; exact hk)).length ≤ 140737488355328 ∧ RowAt w A' (L[k]'(by rw [h.lenL]; exact hk)).length (Jl.rowL (L[k]'(by rw [h.lenL]; exact hk))) := by
  have hv : k < vs.length := by rw [h.len]; exact hk
  have hl : k < L.length := by rw [h.lenL]; exact hk
  rcases h.cells with h0 | ⟨b, off, e, hc⟩
  · omega
  · obtain ⟨A', c, e', h1, h2, h3, h4⟩ := h.rows.2 k vs[k] L[k] (List.getElem?_eq_getElem hv) (List.getElem?_eq_getElem hl)
    exact ⟨b, off, A', c, e, by rw [hc k vs[k] (List.getElem?_eq_getElem hv), e'], h1, h2, h3, h4⟩
/-- one's own slice of slices -/
theorem mat_of_own {w : World} {base n : Nat} {v : Value} {vs : List Value} {L : List (List Nat)} (h : w.ownsRow base 37 1 v n vs) (hr : RowsV w vs L) : ∃ A c, v = .slice A n c ∧ n ≤ c ∧ (A = none → c = 0) ∧ MatV w A n vs L ∧ ∀ a, A = some a → base ≤ a.block ∧ a.block < w.heap.size := by
  obtain ⟨hl, h⟩ := h
  rw [Nat.mul_one] at hl
  rcases h with ⟨rfl, rfl⟩ | ⟨g, cap, cur, rfl, hb, hg, h1, h2, h3, h4⟩
  · exact ⟨none, 0, rfl, Nat.le_refl _, fun _ => rfl, ⟨hl, .inl rfl, hr⟩, fun a ha => by cases ha⟩
  · refine ⟨_, cap, rfl, h1, fun e => (by cases e), ⟨hl, .inr ⟨g, 0, rfl, fun i u hu => ?_⟩, hr⟩, fun a ha => by cases ha; exact ⟨hb, (Array.getElem?_eq_some_iff.1 hg).1⟩⟩
    rw [Nat.zero_add, cell_of_row w g i cur _ _ hg]
    have hi : i < n := by rw [← hl]; exact (List.getElem?_eq_some_iff.1 hu).1
    have e : (cur.toList.take (n * 1))[i]? = vs[i]? := by rw [h4]
    rw [Nat.mul_one, List.getElem?_take, if_pos hi] at e
    rw [← Array.getElem?_toList, e, hu]

theorem equalIn_nil15 (w : World) (d : Nat) (A : Option Addr) (n c : Nat) : (Op.equalIn (d + 1) 37 (.slice A n c) (.slice none 0 0)).run Try.prog w = .ok A.isNone w := by
  cases A <;> simp [Op.equalIn, run_underlying Try.underlying37]
theorem eql_nil15 (w : World) (A : Option Addr) (n c : Nat) : (binOp .eql 37 (.slice A n c) (.slice none 0 0)).run Try.prog w = .ok (.bool A.isNone) w := by
  have h : (Op.equal 37 (.slice A n c) (.slice none 0 0)).run Try.prog w = .ok A.isNone w := equalIn_nil15 w 9999 A n c
  simp only [binOp]
  simp [h]
theorem jclone_any {w : World} {v : Value} {l : List Nat} (h : RowV w v l) :
    Calls Try.prog 69 #[v] w fun e w' => ∃ v', e = .returned v' ∧ RowV w' v' l ∧ VIn (fun b => w.heap.size ≤ b) v' ∧ Bw w w' := by
  obtain ⟨A, ca, rfl, h1, hnil, hL, hrow⟩ := h
  obtain ⟨i0, hi0, hz0, hz1, hz2⟩ := info_parts info_u8
  have hmx : 0 + l.length ≤ maxLen := by unfold maxLen; omega
  have hnl := eql_nil15
  cases A with
  | none =>
    have hL0 : l.length = 0 := by
      rcases hrow.1 with h0 | ⟨b, off, e', _⟩
      · exact h0
      · cases e'
    obtain rfl := hnil rfl
    obtain rfl : l = [] := List.length_eq_zero_iff.1 hL0
    have hr : Hid (RowAt w none 0 (Jl.rowL [])) := hrow
    clear hrow h1 hL hL0 hmx
    go_enter Try.func69, Try.ntmps69
    go_wp2
    go_ret
    exact ⟨_, rfl, ⟨none, 0, rfl, Nat.le_refl _, fun _ => rfl, Nat.zero_le _, hr.out⟩, fun b o n c e h0 => (by cases e), Bw.refl _⟩
  | some a =>
    obtain ⟨L, hLe⟩ : ∃ L, Hid (l.length = L) := ⟨_, rfl⟩
    obtain ⟨f, hf⟩ : ∃ f, Hid (Jl.rowL l = f) := ⟨_, rfl⟩
    unfold RowV
    rw [hLe.out] at h1 hL hrow hmx ⊢
    rw [hf.out] at hrow ⊢
    go_enter Try.func69, Try.ntmps69
    go_wp2_with (at_builtin; refine wpList_append_rowat _ (by rfl) (.tmp 5) (.tmp 6) _ (by rfl) w.heap.size 5 i0 _ 1 Try.underlying37 hi0 hz0 hz1 hz2 rfl _ _ _ (by rfl) (own_empty w w.heap.size _ (Nat.le_refl _)) (some a) L ca f (by rfl) (hrow.keep ((Below.refl _ _).alloc (Nat.le_refl _) _)) hnil hmx (by omega) (by simp) ?_; intro v2 w2 hown2 hgrow2; simp only [Nat.zero_add, List.nil_append] at hown2; have bw2 := bw_fresh hgrow2)
    obtain ⟨A1, c1, e1, hc1, hc2, hr1, hA1⟩ := row_of_own hrow.2 hown2
    have hn1 : A1 = none → c1 = 0 := fun e => by
      rcases hown2.2 with ⟨e2, _⟩ | ⟨g, cap, cur, e2, _⟩
      · rw [e1] at e2; cases e2; rfl
      · rw [e1] at e2; cases e2; cases e
    subst e1
    go_ret
    exact ⟨_, rfl, ⟨A1, c1, rfl, hc1, hn1, hL, hr1⟩, fun b o n c e h0 => by cases e; exact (hA1 _ rfl).1, bw2⟩
theorem info_row15 : (Try.prog.info? 37).map (fun i => (i.zero, i.size, i.bytes)) = some (some (.slice none 0 0), 1, 24) := by kernel_rfl
theorem made_rows15 (n : Nat) (h : n ≤ 4000000) : ∃ M : Array Value, M.size = n ∧ (∀ i, i < n → M[i]? = some (.slice none 0 0)) ∧
    ∀ w, (Instr.makeSlice 42 (.int .i64 (n : Int)) (.int .i64 (n : Int))).run Try.prog w = .ok (.slice (some ⟨w.heap.size, 0, none⟩) n n) (w.alloc (.cells M 37)) := by
  refine ⟨madeCells #[.slice none 0 0] n, ?_, ?_, fun w => run_make_row' 42 37 (.slice none 0 0) 24 Try.underlying42 info_row15 rfl .i64 .i64 n (by omega) (by omega) w⟩
  · simp [madeCells]
  · intro i hi
    simp [madeCells, hi, Nat.mod_one]
/-- how a copy of records ends -/
def CopyV (w : World) (n : Nat) (L : List (List Nat)) (e : Ending) (w' : World) : Prop := ∃ g vs, e = .returned (.slice (some ⟨g, 0, none⟩) n n) ∧ w'.ownsRow w.heap.size 37 1 (.slice (some ⟨g, 0, none⟩) n n) n vs ∧ RowsV w' vs L ∧ RIn (fun b => w.heap.size ≤ b) vs ∧ Bw w w'
set_option maxRecDepth 100000 in
theorem jcopied_any {w : World} {A : Option Addr} {n : Nat} (ca : Nat) {vs : List Value} {L : List (List Nat)} (h : MatV w A n vs L) (hn : n ≤ 4000000) :
    Calls Try.prog 51 #[.slice A n ca] w fun e w' => CopyV w n L e w' := by
  obtain ⟨M, hM, hM0, hmk⟩ := made_rows15 n hn
  have HM : Hid (∀ i, i < n → M[i]? = some (.slice none 0 0)) := hM0
  clear hM0
  have hLn : Hid (L.length = n) := h.lenL
  have H : Hid (MatV w A n vs L) := h
  clear h
  go_enter Try.func51, Try.ntmps51
  go_wp2
  obtain ⟨g, hg⟩ : ∃ g, Hid (w.heap.size = g) := ⟨_, rfl⟩
  obtain ⟨W1, hW1⟩ : ∃ W, Hid (w.alloc (.cells M 37) = W) := ⟨_, rfl⟩
  have hB0 : W1.heap[g]? = some (.cells M 37 (0, 0)) := by rw [← hW1.out, ← hg.out]; exact heap_alloc_new _ _
  have hbw0 : Bw w W1 := by rw [← hW1.out]; exact Below.alloc (Bw.refl _) (Nat.le_refl _) _
  rw [hW1.out, hg.out]
  clear hmk
  go_loopw [11] (fun i wr => ∃ (k : Nat) (us : List Value) (cur : Array Value), k ≤ n ∧ i = .int .i64 (k : Int) ∧ wr.heap[g]? = some (.cells cur 37 (0, 0)) ∧ cur.size = n ∧ cur.toList.take k = us ∧ RowsV wr us (L.take k) ∧ RIn (fun b => w.heap.size ≤ b) us ∧ (∀ j, k ≤ j → j < n → cur[j]? = some (.slice none 0 0)) ∧ Bw w wr) (fun i _ => n - (intOf i).toNat)
  case atStart => exact ⟨0, [], M, Nat.zero_le _, rfl, hB0, hM, rfl, RowsV.nil _, fun v hv => (by cases hv), fun j _ hj => HM.out j hj, hbw0⟩
  case round =>
    obtain ⟨k, us, cur, hk, rfl, hB, hsz, hus, hrow, hin, hnil, hbw⟩ := hrel
    have k0 : (0 : Int) ≤ (k : Int) := Int.natCast_nonneg _
    by_cases hlt : k < n
    · have k1 : (k : Int) < (n : Int) := by omega
      obtain ⟨b, off, A', c', rfl, hcell, hc1, hc2, hc3, hc4⟩ := (H.out.keep hbw).at hlt
      have hkL : k < L.length := by rw [hLn.out]; exact hlt
      obtain ⟨r, hr⟩ : ∃ r, L[k]? = some r := ⟨L[k], List.getElem?_eq_getElem hkL⟩
      have hrk : L[k] = r := by rw [List.getElem?_eq_getElem hkL] at hr; exact Option.some.inj hr
      rw [hrk] at hcell hc1 hc3 hc4
      have HR : Hid (L[k]? = some r) := hr
      clear hr hrk
      have HC := jclone_any (w := wr) (v := .slice A' r.length c') (l := r) ⟨A', c', rfl, hc1, hc2, hc3, hc4⟩
      obtain ⟨lk, hlk⟩ : ∃ m, Hid (r.length = m) := ⟨_, rfl⟩
      rw [hlk.out] at hcell HC
      have l1 := cell_of_row wr g k cur _ _ hB
      rw [hnil k (Nat.le_refl _) hlt] at l1
      have hfin : Hid (∀ (w2 : World) (v : Value), RowV w2 v r → VIn (fun b => wr.heap.size ≤ b) v → Bw wr w2 → w2.cell? ⟨g, k, none⟩ = some (.slice none 0 0) ∧ w2.frozen? ⟨g, k, none⟩ = false ∧ ((∃ (k' : Nat) (us : List Value) (cur : Array Value), k' ≤ n ∧ Value.int .i64 ((k : Int) + 1) = .int .i64 (k' : Int) ∧ (w2.setCell ⟨g, k, none⟩ v).heap[g]? = some (.cells cur 37 (0, 0)) ∧ cur.size = n ∧ cur.toList.take k' = us ∧ RowsV (w2.setCell ⟨g, k, none⟩ v) us (L.take k') ∧ RIn (fun b => w.heap.size ≤ b) us ∧ (∀ j, k' ≤ j → j < n → cur[j]? = some (.slice none 0 0)) ∧ Bw w (w2.setCell ⟨g, k, none⟩ v)) ∧ n - (intOf (.int .i64 ((k : Int) + 1))).toNat < n - (intOf (.int .i64 (k : Int))).toNat)) := fun w2 v hv hvin hb2 => by
        have hg2 : w2.heap[g]? = some (.cells cur 37 (0, 0)) := (hb2.block g (Array.getElem?_eq_some_iff.1 hB).1).trans hB
        have hgw : w.heap.size ≤ g := by rw [hg.out]; exact Nat.le_refl _
        have hx : Bx (· = g) w2 (w2.setCell ⟨g, k, none⟩ v) := (Bx.refl _ _).put rfl
        have hgl : g < wr.heap.size := (Array.getElem?_eq_some_iff.1 hB).1
        have hne : ∀ u, RowV w2 u r → VIn (fun b => wr.heap.size ≤ b) u → RowV (w2.setCell ⟨g, k, none⟩ v) u r := fun u hu hui => hu.keepx hx (fun b o n c e h0 e' => by have := hui b o n c e h0; have e2 : b = g := e'; omega)
        have hrow2 : RowsV (w2.setCell ⟨g, k, none⟩ v) us (L.take k) := by
          refine (hrow.keep hb2).keepx hx (fun u hu b o n c e h0 e' => ?_)
          obtain ⟨i, hi, rfl⟩ := List.getElem_of_mem hu
          have hi' : i < (L.take k).length := hrow.1 ▸ hi
          obtain ⟨A2, c2, e2, _, _, _, hr2⟩ := hrow.2 i us[i] (L.take k)[i] (List.getElem?_eq_getElem hi) (List.getElem?_eq_getElem hi')
          rw [e2] at e
          cases e
          obtain ⟨b3, o3, e3, hc3⟩ := hr2.at h0
          cases e3
          have h5 := hc3 0 h0
          have e2 : b = g := e'
          subst e2
          rw [cell_of_row wr b _ cur _ _ hB] at h5
          have hz : o + 0 < cur.size := (Array.getElem?_eq_some_iff.1 h5).1
          by_cases hok : o + 0 < k
          · have h6 : us[o + 0]? = some (.int .u8 (Jl.rowL (L.take k)[i] 0)) := by rw [← hus, List.getElem?_take, if_pos hok, Array.getElem?_toList]; exact h5
            have hol : o + 0 < (L.take k).length := by rw [← hrow.1]; exact (List.getElem?_eq_some_iff.1 h6).1
            obtain ⟨A4, c4, e4, _⟩ := hrow.2 (o + 0) _ (L.take k)[o + 0] h6 (List.getElem?_eq_getElem hol)
            cases e4
          · rw [hnil (o + 0) (by omega) (by omega)] at h5
            cases h5
        refine ⟨by rw [cell_of_row w2 g k cur _ _ hg2]; exact hnil k (Nat.le_refl _) hlt, frozen_of_row w2 g k cur _ hg2, ⟨k + 1, us ++ [v], cur.setIfInBounds k v, hlt, rfl, heap_setCell_same w2 g k cur _ _ hg2, by simpa using hsz, ?_, ?_, ?_, fun j hj hjn => ?_, ?_⟩, by simp only [intOf]; omega⟩
        · rw [List.take_add_one, Array.toList_setIfInBounds, List.take_set_of_le (Nat.le_refl _), hus]
          congr 1
          rw [List.getElem?_set_self (by rw [Array.length_toList, hsz]; exact hlt)]
          rfl
        · rw [List.take_add_one, HR.out]
          exact hrow2.append (RowsV.one (hne v hv hvin))
        · exact hin.append (fun u hu => by
            simp only [List.mem_singleton] at hu
            subst hu
            exact fun b o n c e h0 => Nat.le_trans hbw.size (hvin b o n c e h0))
        · rw [Array.getElem?_setIfInBounds_ne (by omega)]
          exact hnil j (by omega) hjn
        · exact Below.trans (hbw.trans hb2) (hx.below (hbw.trans hb2).size (fun b e => by have e' : b = g := e; omega))
      clear hrow hin hnil hus hB hB0 hbw0 l1
      go_wp2_with (go_at_call 69; refine HC.mono ?_; rintro e w2 ⟨v, rfl, hv, hvin, hb2⟩; have hv' := hv; obtain ⟨A2, c2, e2, -⟩ := hv'; subst e2; obtain ⟨l1, l2, hf2⟩ := hfin.out w2 _ hv hvin hb2; replace hf2 := (show Hid _ from hf2))
      exact hf2.out
    · obtain rfl : k = n := by omega
      have k1 : ¬ (k : Int) < (k : Int) := by omega
      go_wp2
      go_ret
      refine ⟨g, us, rfl, ⟨?_, .inr ⟨g, k, cur, rfl, by rw [hg.out]; exact Nat.le_refl _, hB, Nat.le_refl _, ?_, by rw [hsz, Nat.mul_one], ?_⟩⟩, ?_, hin, hbw⟩
      · rw [hrow.1, Nat.mul_one, List.length_take, hLn.out, Nat.min_self]
      · unfold maxLen; omega
      · rw [Nat.mul_one]; exact hus
      · have e : L.take k = L := List.take_of_length_le (by rw [hLn.out]; exact Nat.le_refl _)
        rw [e] at hrow
        exact hrow
theorem packed_take {L : List (List Nat)} {k : Nat} {r : List Nat} (h : L[k]? = some r) : Jl.packed (L.take (k + 1)) = Jl.packed (L.take k) ++ (r.length / 256) :: (r.length % 256) :: r := by
  rw [List.take_add_one, h, Option.toList_some, Jl.packed_append]
  simp [Jl.packed]
theorem packed_take_le (L : List (List Nat)) (k : Nat) : (Jl.packed (L.take k)).length ≤ (Jl.packed L).length := by
  have : Jl.packed L = Jl.packed (L.take k) ++ Jl.packed (L.drop k) := by rw [← Jl.packed_append, List.take_append_drop]
  rw [this, List.length_append]; omega
theorem MatV.row {w : World} {A : Option Addr} {n : Nat} {vs : List Value} {L : List (List Nat)} (h : MatV w A n vs L) {k : Nat} (hk : k < n) : ∃ r b off A' c, L[k]? = some r ∧ A = some ⟨b, off, none⟩ ∧ w.cell? ⟨b, off + k, none⟩ = some (.slice A' r.length c) ∧ r.length ≤ c ∧ (A' = none → c = 0) ∧ r.length ≤ 140737488355328 ∧ RowAt w A' r.length (Jl.rowL r) := by
  obtain ⟨b, off, A', c, h1⟩ := h.at hk
  exact ⟨_, b, off, A', c, List.getElem?_eq_getElem (by rw [h.lenL]; exact hk), h1⟩
theorem jsizeof_any {w : World} {A : Option Addr} {n : Nat} (ca : Nat) {vs : List Value} {L : List (List Nat)} (h : MatV w A n vs L) (hn : n ≤ 1000000) (hs : (Jl.packed L).length ≤ 1000000) :
    Calls Try.prog 70 #[.slice A n ca] w fun e w' => e = .returned (.int .i64 ((Jl.packed L).length : Int)) ∧ w' = w := by
  go_enter Try.func70, Try.ntmps70
  go_wp2
  go_loop [3, 8] (fun s i => ∃ k z : Nat, k ≤ n ∧ i = .int .i64 k ∧ s = .int .i64 (z : Int) ∧ Hid (z = (Jl.packed (L.take k)).length)) (fun _ i => n - (intOf i).toNat)
  case atStart => exact ⟨0, 0, Nat.zero_le _, rfl, rfl, rfl⟩
  case round =>
    obtain ⟨k, z, hk, rfl, rfl, hz⟩ := hrel
    by_cases hlt : k < n
    · obtain ⟨r, b, off, A', c', hr, rfl, hcell, -⟩ := h.row hlt
      have h2 := packed_take_le L (k + 1)
      rw [packed_take hr, List.length_append, List.length_cons, List.length_cons, ← hz.out] at h2
      obtain ⟨m, hm⟩ : ∃ m, Hid (r.length = m) := ⟨_, rfl⟩
      rw [hm.out] at hcell h2
      have h3 : z + m + 2 ≤ 1000000 := by omega
      have hfin : Hid ((z + (2 + m) : Nat) = (Jl.packed (L.take (k + 1))).length) := by
        show _ = _
        rw [packed_take hr, List.length_append, List.length_cons, List.length_cons, ← hz.out, hm.out]
        omega
      clear h2 hz hr
      go_wp2
      go_round
      case rel => exact ⟨k + 1, z + (2 + m), by omega, by go_num, by go_num, hfin⟩
      case measure => simp [intOf]; omega
    · obtain rfl : k = n := by omega
      have e : L.take k = L := List.take_of_length_le (by rw [h.lenL]; exact Nat.le_refl _)
      have hz2 : Hid (z = (Jl.packed L).length) := by have := hz.out; rw [e] at this; exact this
      clear hz e
      go_wp2
      go_ret
      exact ⟨ret_int (by rw [hz2.out]), rfl⟩
def cellsL (l : List Nat) : List Value := l.map fun b => .int .u8 ((b : Nat) : Int)
theorem cellsL_of (l : List Nat) : cellsU (Jl.rowL l) l.length = cellsL l := by
  unfold cellsU cellsL
  apply List.ext_getElem?
  intro i
  by_cases h : i < l.length
  · simp [h, Jl.rowL]
  · rw [List.getElem?_eq_none (by simp; omega), List.getElem?_eq_none (by simp; omega)]
theorem made_cap (n : Nat) (h : n ≤ 1000000) : ∃ M : Array Value, M.size = n ∧
    ∀ w, (Instr.makeSlice 37 (.int .i64 0) (.int .i64 (n : Int))).run Try.prog w = .ok (.slice (some ⟨w.heap.size, 0, none⟩) 0 n) (w.alloc (.cells M 5)) := by
  obtain ⟨i0, hi0, hz0, hz1, hz2⟩ := info_parts info_u8
  refine ⟨madeCells #[.int .u8 0] n, ?_, fun w => ?_⟩
  · simp [madeCells]
  · have hr := run_make (P := Try.prog) w 37 5 i0 _ Try.underlying37 hi0 hz0 .i64 .i64 (0 : Int) (n : Int) (by omega) (by omega) (by rw [hz2]; omega) (by omega)
    rw [hz1, Nat.mul_one, Int.toNat_natCast, show ((0 : Int)).toNat = 0 by rfl] at hr
    exact hr
/-- how packed ends -/
def PackV (w : World) (B : List Nat) (e : Ending) (w' : World) : Prop := ∃ v, e = .returned v ∧ w'.ownsRow w.heap.size 5 1 v B.length (cellsL B) ∧ Bw w w'
set_option maxRecDepth 100000 in
theorem jpacked_any {w : World} {A : Option Addr} {n : Nat} (ca : Nat) {vs : List Value} {L : List (List Nat)} (h : MatV w A n vs L) (hn : n ≤ 1000000) (hs : (Jl.packed L).length ≤ 1000000) (hl : ∀ r ∈ L, r.length ≤ 65535) :
    Calls Try.prog 71 #[.slice A n ca] w fun e w' => PackV w (Jl.packed L) e w' := by
  obtain ⟨i0, hi0, hz0, hz1, hz2⟩ := info_parts info_u8
  obtain ⟨N, hN⟩ : ∃ N, Hid ((Jl.packed L).length = N) := ⟨_, rfl⟩
  have HS := jsizeof_any ca h hn hs
  rw [hN.out] at HS hs
  obtain ⟨M, hM, hmk⟩ := made_cap N hs
  have H : Hid (MatV w A n vs L) := h
  have HL : Hid (∀ r ∈ L, r.length ≤ 65535) := hl
  clear h hl
  go_enter Try.func71, Try.ntmps71
  go_wp2_with (go_at_call 70; refine HS.mono ?_; rintro e w1 ⟨rfl, hw⟩; obtain rfl := hw.symm)
  have hown0 : (w.alloc (.cells M 5)).ownsRow w.heap.size 5 1 (.slice (some ⟨w.heap.size, 0, none⟩) 0 N) 0 [] := ⟨rfl, .inr ⟨w.heap.size, N, M, rfl, Nat.le_refl _, heap_alloc_new _ _, Nat.zero_le _, by unfold maxLen; omega, by rw [hM, Nat.mul_one], by simp⟩⟩
  have hbw0 : Bw w (w.alloc (.cells M 5)) := Below.alloc (Bw.refl _) (Nat.le_refl _) _
  clear hmk HS
  go_loopw [3, 11] (fun v i wr => ∃ k : Nat, k ≤ n ∧ i = .int .i64 (k : Int) ∧ wr.ownsRow w.heap.size 5 1 v (Jl.packed (L.take k)).length (cellsL (Jl.packed (L.take k))) ∧ Bw w wr) (fun _ i _ => n - (intOf i).toNat)
  case atStart => exact ⟨0, Nat.zero_le _, rfl, (by rw [List.take_zero]; exact hown0), hbw0⟩
  case round =>
    obtain ⟨k, hk, rfl, hown, hbw⟩ := hrel
    have k0 : (0 : Int) ≤ (k : Int) := Int.natCast_nonneg _
    by_cases hlt : k < n
    · have k1 : (k : Int) < (n : Int) := by omega
      obtain ⟨r, b, off, A', c', hr, rfl, hcellw, hc1, hc2, hc3, hc4⟩ := H.out.row hlt
      have hcell := (hbw.cell (p := ⟨b, off + k, none⟩) (block_lt_of_cell hcellw)).trans hcellw
      clear hcellw
      have h65 : r.length ≤ 65535 := HL.out r (List.mem_of_getElem? hr)
      have h2 := packed_take_le L (k + 1)
      have e2 := packed_take hr
      obtain ⟨P, hP⟩ : ∃ P, Hid (Jl.packed (L.take k) = P) := ⟨_, rfl⟩
      rw [hP.out] at hown e2
      rw [e2, List.length_append, List.length_cons, List.length_cons, hN.out] at h2
      have E2 : Hid (Jl.packed (L.take (k + 1)) = P ++ r.length / 256 :: r.length % 256 :: r) := e2
      obtain ⟨m, hm⟩ : ∃ m, Hid (r.length = m) := ⟨_, rfl⟩
      obtain ⟨p, hp⟩ : ∃ p, Hid (P.length = p) := ⟨_, rfl⟩
      rw [hm.out] at hcell h2 h65 hc1 hc3 hc4
      rw [hp.out] at hown h2
      have m1 : (m : Int) / 256 % 256 = (m : Int) / 256 := by omega
      have hR : Hid (RowAt w A' m (Jl.rowL r)) := hc4
      obtain ⟨x0, hx0⟩ : ∃ x : Nat, Hid (m / 256 = x) := ⟨_, rfl⟩
      obtain ⟨x1, hx1⟩ : ∃ x : Nat, Hid (m % 256 = x) := ⟨_, rfl⟩
      have e0 : (m : Int) / 256 = (x0 : Int) := by have := hx0.out; omega
      have e1 : (m : Int) % 256 = (x1 : Int) := by have := hx1.out; omega
      have e0' : (x0 : Int) % 256 = (x0 : Int) := by have := hx0.out; omega
      have hx2 : RowAt (wr.alloc (.cells #[.int .u8 (x0 : Int), .int .u8 (x1 : Int)] 5)) (some ⟨wr.heap.size, 0, none⟩) 2 (Jl.rowL [x0, x1]) := row_new wr _ _ 2 _ (Jl.rowL_bd (fun y hy => by
        have := hx0.out; have := hx1.out
        simp only [List.mem_cons, List.not_mem_nil, or_false] at hy
        rcases hy with rfl | rfl <;> omega)) (fun i hi => by
          rcases i with _ | _ | i
          · rfl
          · rfl
          · omega)
      have p1 : p + 2 ≤ maxLen := by unfold maxLen; omega
      have p2 : p + 2 + m ≤ maxLen := by unfold maxLen; omega
      have hfin : Hid (∀ v2 w2, w2.ownsRow w.heap.size 5 1 v2 (p + 2 + m) ((cellsL P ++ cellsU (Jl.rowL [x0, x1]) 2) ++ cellsU (Jl.rowL r) m) → Bw w w2 → (∃ k' : Nat, k' ≤ n ∧ Value.int .i64 ((k : Int) + 1) = .int .i64 (k' : Int) ∧ w2.ownsRow w.heap.size 5 1 v2 (Jl.packed (L.take k')).length (cellsL (Jl.packed (L.take k'))) ∧ Bw w w2) ∧ n - (intOf (.int .i64 ((k : Int) + 1))).toNat < n - (intOf (.int .i64 (k : Int))).toNat) := fun v2 w2 ho hb => by
        refine ⟨⟨k + 1, hlt, rfl, ?_, hb⟩, by simp only [intOf]; omega⟩
        rw [E2.out, List.length_append, List.length_cons, List.length_cons, hp.out, hm.out, show p + (m + 1 + 1) = p + 2 + m by omega]
        have h1 : cellsU (Jl.rowL [x0, x1]) 2 = cellsL [x0, x1] := cellsL_of [x0, x1]
        have h2 : cellsU (Jl.rowL r) m = cellsL r := by rw [← hm.out]; exact cellsL_of r
        rw [h1, h2] at ho
        rw [hx0.out, hx1.out]
        unfold cellsL at *
        simpa using ho
      clear e2 hr hown0 hbw0 hc4 m1
      go_wp2_with (first
        | (at_builtin; refine wpList_append_rowat _ (by rfl) (.tmp 15) (.tmp 23) _ (by rfl) w.heap.size 5 i0 _ 1 Try.underlying37 hi0 hz0 hz1 hz2 rfl _ _ _ (by rfl) (hown.alloc _) (some ⟨wr.heap.size, 0, none⟩) 2 2 (Jl.rowL [x0, x1]) (by rfl) hx2 (fun e => by cases e) p1 (by omega) (Nat.le_trans hbw.size (by rw [size_alloc]; omega)) ?_; intro v2 w2 hown2 hgrow2; have hbw2 : Bw w w2 := bw_grow hgrow2 (Below.alloc hbw hbw.size _) (Nat.le_trans hbw.size (by rw [size_alloc]; omega)) (hown.alloc _); clear hx2 hown hgrow2)
        | (at_builtin; refine wpList_append_rowat _ (by rfl) (.tmp 25) (.tmp 26) _ (by rfl) w.heap.size 5 i0 _ 1 Try.underlying37 hi0 hz0 hz1 hz2 rfl _ _ _ (by rfl) hown2 A' m c' (Jl.rowL r) (by rfl) (hR.out.keep hbw2) hc2 p2 (by omega) hbw2.size ?_; intro v3 w3 hown3 hgrow3; have hbw3 : Bw w w3 := bw_grow hgrow3 hbw2 hbw2.size hown2; have hf3 := hfin.out v3 w3 hown3 hbw3; replace hf3 := (show Hid _ from hf3)))
      exact hf3.out
    · obtain rfl : k = n := by omega
      have k1 : ¬ (k : Int) < (k : Int) := by omega
      have e : L.take k = L := List.take_of_length_le (by rw [H.out.lenL]; exact Nat.le_refl _)
      rw [e] at hown
      clear e
      go_wp2
      go_ret
      exact ⟨_, rfl, hown, hbw⟩
end Go.Proofs.Ytppknadflmjefaa

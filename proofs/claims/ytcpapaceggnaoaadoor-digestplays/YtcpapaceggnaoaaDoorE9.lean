/- Contract of the program's own Sum. -/
import Derived.Test.YtcpapaceggnaoaaDoorE7
namespace Go.Proofs.YtcpapaceggnaoaaDoor
open Go.RowKit Go.Deep

theorem index8 (w : World) (s : Nat → Nat) (k : Nat) (hk : k < 8) :
    (Instr.index 43 (.agg (cells8 s)) (.int .i64 (k : Int))).run Tryd.prog w = .ok (.int .u32 ((s k : Nat) : Int)) w := by
  simp [Instr.index, run_underlying Tryd.underlying43, asIntOf, hk, go_sem]
  rw [cells8_at s k hk]; rfl

/-- the first m bytes of a digest in a block of 32 -/
def SumAt (w : World) (g : Nat) (d : Nat → Nat) (m : Nat) : Prop := ∃ cur, w.heap[g]? = some (.cells cur 23 (0, 0)) ∧ cur.size = 32 ∧ cur.all (·.oneCell') = true ∧ ∀ i, i < m → cur[i]? = some (.int .u8 ((d i : Nat) : Int))
theorem SumAt.cell {w : World} {g m : Nat} {d : Nat → Nat} (h : SumAt w g d m) {i : Nat} (hi : i < 32) : ∃ v, w.cell? ⟨g, i, none⟩ = some v ∧ w.frozen? ⟨g, i, none⟩ = false := by
  obtain ⟨cur, h1, h2, -, -⟩ := h
  exact ⟨_, (cell_of_row w g i cur _ _ h1).trans (Array.getElem?_eq_getElem (by omega)), frozen_of_row w g i cur _ h1⟩
theorem SumAt.set {w : World} {g m : Nat} {d : Nat → Nat} (h : SumAt w g d m) (hm : m < 32) {z : Int} (e : z = ((d m : Nat) : Int)) : SumAt (w.setCell ⟨g, m, none⟩ (.int .u8 z)) g d (m + 1) := by
  obtain ⟨cur, h1, h2, h3, h4⟩ := h
  refine ⟨_, heap_setCell_same w g m cur _ _ h1, by simpa using h2, ?_, fun i hi => ?_⟩
  · rw [Array.all_eq_true_iff_forall_mem] at h3 ⊢
    intro x hx
    rcases Array.mem_or_eq_of_mem_setIfInBounds hx with h | h
    · exact h3 x h
    · subst h; rfl
  · by_cases hit : i = m
    · subst hit; rw [Array.getElem?_setIfInBounds_self_of_lt (by omega), e]
    · rw [Array.getElem?_setIfInBounds_ne (Ne.symm hit), h4 i (by omega)]

set_option linter.unusedSimpArgs false in
set_option maxRecDepth 100000 in
set_option maxHeartbeats 8000000 in
theorem sum_any (g : Nat) (F : Nat → Int) (len : Nat) (A : Option Addr) (hlen : len ≤ 1000000000000) (w : World) (hh : HashAt w g F len A) (hk : KAt w) :
    Calls Tryd.prog 16 #[.pointer (some ⟨g, 0, none⟩)] w fun e w' => ∃ T : Array Value, e = .returned (.agg T) ∧ T.size = 32 ∧ (∀ i, i < 32 → T[i]? = some (.int .u8 ((Sha.dig (nbD F) len i : Nat) : Int))) ∧ Bw w w' := by
  have hz := zero32
  have hz8 := zero8
  have hi8 := info8
  obtain ⟨s, hs⟩ : ∃ s, Hid (s = Sha.after (nbD F) (len / 64)) := ⟨_, rfl⟩
  have hsl : ∀ i, s i < 4294967296 := by rw [hs.out]; exact Sha.after_lt _ _
  obtain ⟨n, hn⟩ : ∃ n, Hid (n = len % 64) := ⟨_, rfl⟩
  have hn64 : n < 64 := by have := hn.out; omega
  obtain ⟨f, hf⟩ : ∃ f, Hid (f = fun c => F (64 * (len / 64) + c)) := ⟨_, rfl⟩
  have hH := hh.at_
  have hrow := hh.row
  rw [← hs.out, ← hn.out] at hH
  rw [← hn.out, ← hf.out] at hrow
  obtain ⟨R, hR⟩ : ∃ R, Hid (R = Sha.after (Sha.pad (nbD F) len) (Sha.blocks len)) := ⟨_, rfl⟩
  have hRl : ∀ i, R i < 4294967296 := by rw [hR.out]; exact Sha.after_lt _ _
  have eR : Hid (runS s (nbD (endF f n len)) (64 * Sha.blocks n / 64) = R) := by
    show _ = _
    rw [Nat.mul_div_cancel_left _ (by decide), hs.out, hf.out, hn.out, hR.out]
    exact dig_end hh.bd len
  have hdig : Hid (∀ i, Sha.dig (nbD F) len i = R (i / 4) / 2 ^ (24 - 8 * (i % 4)) % 256) := fun i => by rw [hR.out]; rfl
  obtain ⟨wx, hwx⟩ : ∃ wx, wx = w.alloc (.cells zeros32 23) := ⟨_, rfl⟩
  have hbx : Bw w wx := by rw [hwx]; exact (Below.refl _ _).alloc (Nat.le_refl _) _
  have hZ : wx.heap[w.heap.size]? = some (.cells zeros32 23 (0, 0)) := by rw [hwx]; exact heap_alloc_new _ _
  have hHx := hH.keep hbx
  have hrx := hrow.keep hbx
  have hkx := hk.keep hbx
  clear hH hrow hk hh
  go_enter Tryd.func16, Tryd.ntmps16
  go_wp2
  rw [← hwx]
  clear hwx
  go_cut [3] from 8 (fun v wc => ∃ g3 : Nat, v = .pointer (some ⟨g3, 0, none⟩) ∧ EightAt wc g3 R ∧ wx.heap.size ≤ g3 ∧ Bw wx wc)
  case first =>
    refine wp_region_held_drew (S := fun w' => Bw wx w') (by kernel_rfl) ((Below.refl _ _).drew) (fun hHeld => ?_)
    refine wpAnyH_take (i := 0) (oi := { dst := some 12, op := Op.move (Operand.tmp 0), type := 31, pos := "digest.go:62", after := #[], guard := none }) (v := ?_) rfl (by kernel_rfl) (by kernel_rfl) (by kernel_rfl) (fun _ _ _ h => h) (Or.inl ⟨by rfl, ?_⟩) (by assumption) ?_
    rotate_left
    · intro w hSw; (try dsimp only at hSw); go_simp; all_goals (with_reducible rfl)
    try simp only [Act.put, List.setIfInBounds_toArray, List.set_cons_zero, List.set_cons_succ]
    refine wpAnyH_take (i := 1) (oi := { dst := some 13, op := Op.nilCheck (Operand.tmp 12), type := 0, pos := "digest.go:62", after := #[{ on := 0, ground := Ground.data }], guard := none }) (v := ?_) rfl (by kernel_rfl) (by kernel_rfl) (by kernel_rfl) (fun _ _ _ h => h) (Or.inl ⟨by rfl, ?_⟩) (by assumption) ?_
    rotate_left
    · intro w hSw; (try dsimp only at hSw); go_simp; all_goals (with_reducible rfl)
    try simp only [Act.put, List.setIfInBounds_toArray, List.set_cons_zero, List.set_cons_succ]
    refine wpAnyH_take (i := 2) (oi := { dst := some 14, op := Op.fieldAddr 47 (Operand.tmp 13) 0, type := 0, pos := "digest.go:62", after := #[{ on := 1, ground := Ground.data }], guard := none }) (v := ?_) rfl (by kernel_rfl) (by kernel_rfl) (by kernel_rfl) (fun _ _ _ h => h) (Or.inl ⟨by rfl, ?_⟩) (by assumption) ?_
    rotate_left
    · intro w hSw; (try dsimp only at hSw); go_simp; all_goals (with_reducible rfl)
    try simp only [Act.put, List.setIfInBounds_toArray, List.set_cons_zero, List.set_cons_succ]
    refine wpAnyH_take (i := 3) (oi := { dst := some 15, op := Op.load 43 (Operand.tmp 14), type := 43, pos := "digest.go:62", after := #[{ on := 2, ground := Ground.data }], guard := none }) (v := .agg (cells8 s)) rfl (by kernel_rfl) (by kernel_rfl) (by kernel_rfl) (fun _ _ _ h => h) (yieldsIf_load_mid (by rfl) 43 _ rfl g 0 rfl (cells8 s).toList _ (fun w' h' => (hHx.keep h').range) Tryd.underlying43 rfl (by kernel_rfl)) (by assumption) ?_
    try simp only [Act.put, List.setIfInBounds_toArray, List.set_cons_zero, List.set_cons_succ]
    refine wpAnyH_take (i := 4) (oi := { dst := some 16, op := Op.move (Operand.tmp 0), type := 31, pos := "digest.go:62", after := #[], guard := none }) (v := ?_) rfl (by kernel_rfl) (by kernel_rfl) (by kernel_rfl) (fun _ _ _ h => h) (Or.inl ⟨by rfl, ?_⟩) (by assumption) ?_
    rotate_left
    · intro w hSw; (try dsimp only at hSw); go_simp; all_goals (with_reducible rfl)
    try simp only [Act.put, List.setIfInBounds_toArray, List.set_cons_zero, List.set_cons_succ]
    refine wpAnyH_take (i := 5) (oi := { dst := some 17, op := Op.nilCheck (Operand.tmp 16), type := 0, pos := "digest.go:62", after := #[{ on := 4, ground := Ground.data }], guard := none }) (v := ?_) rfl (by kernel_rfl) (by kernel_rfl) (by kernel_rfl) (fun _ _ _ h => h) (Or.inl ⟨by rfl, ?_⟩) (by assumption) ?_
    rotate_left
    · intro w hSw; (try dsimp only at hSw); go_simp; all_goals (with_reducible rfl)
    try simp only [Act.put, List.setIfInBounds_toArray, List.set_cons_zero, List.set_cons_succ]
    refine wpAnyH_take (i := 6) (oi := { dst := some 18, op := Op.fieldAddr 47 (Operand.tmp 17) 1, type := 0, pos := "digest.go:62", after := #[{ on := 5, ground := Ground.data }], guard := none }) (v := ?_) rfl (by kernel_rfl) (by kernel_rfl) (by kernel_rfl) (fun _ _ _ h => h) (Or.inl ⟨by rfl, ?_⟩) (by assumption) ?_
    rotate_left
    · intro w hSw; (try dsimp only at hSw); go_simp; all_goals (with_reducible rfl)
    try simp only [Act.put, List.setIfInBounds_toArray, List.set_cons_zero, List.set_cons_succ]
    refine wpAnyH_take (i := 7) (oi := { dst := some 19, op := Op.load 22 (Operand.tmp 18), type := 22, pos := "digest.go:62", after := #[{ on := 6, ground := Ground.data }], guard := none }) (v := ?_) rfl (by kernel_rfl) (by kernel_rfl) (by kernel_rfl) (fun _ _ _ h => h) (Or.inl ⟨by rfl, ?_⟩) (by assumption) ?_
    rotate_left
    · intro w hSw; (try dsimp only at hSw); have c8 := (hHx.keep hSw).left.1; go_simp; all_goals (with_reducible rfl)
    try simp only [Act.put, List.setIfInBounds_toArray, List.set_cons_zero, List.set_cons_succ]
    refine wpAnyH_take (i := 8) (oi := { dst := some 20, op := Op.move (Operand.tmp 0), type := 31, pos := "digest.go:62", after := #[], guard := none }) (v := ?_) rfl (by kernel_rfl) (by kernel_rfl) (by kernel_rfl) (fun _ _ _ h => h) (Or.inl ⟨by rfl, ?_⟩) (by assumption) ?_
    rotate_left
    · intro w hSw; (try dsimp only at hSw); go_simp; all_goals (with_reducible rfl)
    try simp only [Act.put, List.setIfInBounds_toArray, List.set_cons_zero, List.set_cons_succ]
    refine wpAnyH_take (i := 9) (oi := { dst := some 21, op := Op.nilCheck (Operand.tmp 20), type := 0, pos := "digest.go:62", after := #[{ on := 8, ground := Ground.data }], guard := none }) (v := ?_) rfl (by kernel_rfl) (by kernel_rfl) (by kernel_rfl) (fun _ _ _ h => h) (Or.inl ⟨by rfl, ?_⟩) (by assumption) ?_
    rotate_left
    · intro w hSw; (try dsimp only at hSw); go_simp; all_goals (with_reducible rfl)
    try simp only [Act.put, List.setIfInBounds_toArray, List.set_cons_zero, List.set_cons_succ]
    refine wpAnyH_take (i := 10) (oi := { dst := some 22, op := Op.fieldAddr 47 (Operand.tmp 21) 2, type := 0, pos := "digest.go:62", after := #[{ on := 9, ground := Ground.data }], guard := none }) (v := ?_) rfl (by kernel_rfl) (by kernel_rfl) (by kernel_rfl) (fun _ _ _ h => h) (Or.inl ⟨by rfl, ?_⟩) (by assumption) ?_
    rotate_left
    · intro w hSw; (try dsimp only at hSw); go_simp; all_goals (with_reducible rfl)
    try simp only [Act.put, List.setIfInBounds_toArray, List.set_cons_zero, List.set_cons_succ]
    refine wpAnyH_take (i := 11) (oi := { dst := some 23, op := Op.load 3 (Operand.tmp 22), type := 3, pos := "digest.go:62", after := #[{ on := 10, ground := Ground.data }], guard := none }) (v := ?_) rfl (by kernel_rfl) (by kernel_rfl) (by kernel_rfl) (fun _ _ _ h => h) (Or.inl ⟨by rfl, ?_⟩) (by assumption) ?_
    rotate_left
    · intro w hSw; (try dsimp only at hSw); have c9 := (hHx.keep hSw).length.1; go_simp; all_goals (with_reducible rfl)
    try simp only [Act.put, List.setIfInBounds_toArray, List.set_cons_zero, List.set_cons_succ]
    refine wpAnyH_ready (rs := [12, 14]) (by kernel_rfl) (by simp) ?_
    refine AllReadyH.cons (o := { dst := some 24, op := Op.call { callee := Callee.value (Operand.func 22), args := #[Operand.tmp 19, Operand.tmp 23], argTypes := #[22, 3] }, type := 22, pos := "digest.go:62", after := #[{ on := 7, ground := Ground.data }, { on := 11, ground := Ground.data }], guard := none }) rfl (fun K hK => ?_) ?_
    · rw [if_pos (by rfl)]
      go_simp
      refine (ended_any A n len f hn64 hlen _ (hrx.keep hHeld)).mono ?_
      rintro e w7 ⟨ge, ce, rfl, hce, hce2, hrE, hw7⟩
      refine hK.out _ _ (hHeld.trans hw7) (fun hHeld' => ?_)
      clear hK K
      try simp only [Act.put, List.setIfInBounds_toArray, List.set_cons_zero, List.set_cons_succ]
      clear hHeld
      have hHeld := hHeld'
      clear hHeld' hw7
      refine wpAnyH_ready (rs := [13, 14]) (by kernel_rfl) (by simp) ?_
      refine AllReadyH.cons (o := { dst := some 25, op := Op.call { callee := Callee.value (Operand.func 20), args := #[Operand.tmp 15, Operand.tmp 24], argTypes := #[43, 22] }, type := 43, pos := "digest.go:62", after := #[{ on := 3, ground := Ground.data }, { on := 12, ground := Ground.data }, { on := 12, ground := Ground.chain }], guard := none }) rfl (fun K hK => ?_) ?_
      · rw [if_pos (by rfl)]
        go_simp
        refine (ptaken_any s hsl _ _ _ (endF f n len) hce hce2 _ hrE (hkx.keep hHeld)).mono ?_
        rintro e w7 ⟨rfl, hw7⟩
        rw [eR.out]
        refine hK.out _ _ (hHeld.trans hw7) (fun hHeld' => ?_)
        clear hK K
        try simp only [Act.put, List.setIfInBounds_toArray, List.set_cons_zero, List.set_cons_succ]
        clear hHeld
        have hHeld := hHeld'
        clear hHeld' hw7
        refine wpAnyH_ready (rs := [14]) (by kernel_rfl) (by simp) ?_
        refine AllReadyH.cons (o := { dst := some 3, op := Op.alloc 43, type := 0, pos := "digest.go:62", after := #[], guard := none }) rfl (fun K hK => ?_) AllReadyH.nil
        rw [if_pos (by rfl)]
        go_simp
        refine hK.out _ _ (Below.alloc hHeld hHeld.size _) (fun hHeld' => ?_)
        clear hK K
        try simp only [Act.put, List.setIfInBounds_toArray, List.set_cons_zero, List.set_cons_succ]
        first | have hV := fresh8 hHeld' | have hV := fresh8d hHeld'
        have hgv := hHeld.size
        clear hHeld
        have hHeld := hHeld'
        clear hHeld'
        refine wpAnyH_ready (rs := [15]) (by kernel_rfl) (by simp) ?_
        refine AllReadyH.cons (o := { dst := none, op := Op.store 43 (Operand.tmp 3) (Operand.tmp 25), type := 0, pos := "digest.go:62", after := #[{ on := 14, ground := Ground.data }, { on := 13, ground := Ground.data }, { on := 13, ground := Ground.chain }, { on := 0, ground := Ground.phase }, { on := 1, ground := Ground.phase }, { on := 2, ground := Ground.phase }, { on := 3, ground := Ground.phase }, { on := 4, ground := Ground.phase }, { on := 5, ground := Ground.phase }, { on := 6, ground := Ground.phase }, { on := 7, ground := Ground.phase }, { on := 8, ground := Ground.phase }, { on := 9, ground := Ground.phase }, { on := 10, ground := Ground.phase }, { on := 11, ground := Ground.phase }, { on := 12, ground := Ground.phase }, { on := 13, ground := Ground.phase }, { on := 14, ground := Ground.phase }], guard := none }) rfl (fun K hK => ?_) AllReadyH.nil
        rw [if_pos (by rfl)]
        refine wp_store_row 43 _ _ rfl _ (cells8 R) rfl rfl 43 zeros8 hV (hi8 _) rfl (cells8_all _) ?_
        refine hK.out _ _ (setRow_bw hHeld hgv _) (fun hHeld => ?_)
        clear hK K
        try simp only [Act.put, List.setIfInBounds_toArray, List.set_cons_zero, List.set_cons_succ]
        refine wpAnyH_done (by kernel_rfl) ?_ _
        go_wp2
        go_meet
        case rel => exact ⟨_, rfl, setRow_heap _ _ _ _ _ _ hV, hgv, hHeld⟩
      refine AllReadyH.cons (o := { dst := some 3, op := Op.alloc 43, type := 0, pos := "digest.go:62", after := #[], guard := none }) rfl (fun K hK => ?_) AllReadyH.nil
      rw [if_pos (by rfl)]
      go_simp
      refine hK.out _ _ (Below.alloc hHeld hHeld.size _) (fun hHeld' => ?_)
      clear hK K
      try simp only [Act.put, List.setIfInBounds_toArray, List.set_cons_zero, List.set_cons_succ]
      first | have hV := fresh8 hHeld' | have hV := fresh8d hHeld'
      have hgv := hHeld.size
      have hrE := RowAt.keep hrE ((Below.refl _ _).alloc (Nat.le_refl _) (.cells zeros8 43))
      clear hHeld
      have hHeld := hHeld'
      clear hHeld'
      refine wpAnyH_ready (rs := [13]) (by kernel_rfl) (by simp) ?_
      refine AllReadyH.cons (o := { dst := some 25, op := Op.call { callee := Callee.value (Operand.func 20), args := #[Operand.tmp 15, Operand.tmp 24], argTypes := #[43, 22] }, type := 43, pos := "digest.go:62", after := #[{ on := 3, ground := Ground.data }, { on := 12, ground := Ground.data }, { on := 12, ground := Ground.chain }], guard := none }) rfl (fun K hK => ?_) AllReadyH.nil
      rw [if_pos (by rfl)]
      go_simp
      refine (ptaken_any s hsl _ _ _ (endF f n len) hce hce2 _ hrE (hkx.keep hHeld)).mono ?_
      rintro e w7 ⟨rfl, hw7⟩
      rw [eR.out]
      refine hK.out _ _ (hHeld.trans hw7) (fun hHeld' => ?_)
      clear hK K
      try simp only [Act.put, List.setIfInBounds_toArray, List.set_cons_zero, List.set_cons_succ]
      have hV' := (hw7.block _ (Array.getElem?_eq_some_iff.1 hV).1).trans hV
      clear hV
      have hV := hV'
      clear hV'
      clear hHeld
      have hHeld := hHeld'
      clear hHeld' hw7
      refine wpAnyH_ready (rs := [15]) (by kernel_rfl) (by simp) ?_
      refine AllReadyH.cons (o := { dst := none, op := Op.store 43 (Operand.tmp 3) (Operand.tmp 25), type := 0, pos := "digest.go:62", after := #[{ on := 14, ground := Ground.data }, { on := 13, ground := Ground.data }, { on := 13, ground := Ground.chain }, { on := 0, ground := Ground.phase }, { on := 1, ground := Ground.phase }, { on := 2, ground := Ground.phase }, { on := 3, ground := Ground.phase }, { on := 4, ground := Ground.phase }, { on := 5, ground := Ground.phase }, { on := 6, ground := Ground.phase }, { on := 7, ground := Ground.phase }, { on := 8, ground := Ground.phase }, { on := 9, ground := Ground.phase }, { on := 10, ground := Ground.phase }, { on := 11, ground := Ground.phase }, { on := 12, ground := Ground.phase }, { on := 13, ground := Ground.phase }, { on := 14, ground := Ground.phase }], guard := none }) rfl (fun K hK => ?_) AllReadyH.nil
      rw [if_pos (by rfl)]
      refine wp_store_row 43 _ _ rfl _ (cells8 R) rfl rfl 43 zeros8 hV (hi8 _) rfl (cells8_all _) ?_
      refine hK.out _ _ (setRow_bw hHeld hgv _) (fun hHeld => ?_)
      clear hK K
      try simp only [Act.put, List.setIfInBounds_toArray, List.set_cons_zero, List.set_cons_succ]
      refine wpAnyH_done (by kernel_rfl) ?_ _
      go_wp2
      go_meet
      case rel => exact ⟨_, rfl, setRow_heap _ _ _ _ _ _ hV, hgv, hHeld⟩
    refine AllReadyH.cons (o := { dst := some 3, op := Op.alloc 43, type := 0, pos := "digest.go:62", after := #[], guard := none }) rfl (fun K hK => ?_) AllReadyH.nil
    rw [if_pos (by rfl)]
    go_simp
    refine hK.out _ _ (Below.alloc hHeld hHeld.size _) (fun hHeld' => ?_)
    clear hK K
    try simp only [Act.put, List.setIfInBounds_toArray, List.set_cons_zero, List.set_cons_succ]
    first | have hV := fresh8 hHeld' | have hV := fresh8d hHeld'
    have hgv := hHeld.size
    clear hHeld
    have hHeld := hHeld'
    clear hHeld'
    refine wpAnyH_ready (rs := [12]) (by kernel_rfl) (by simp) ?_
    refine AllReadyH.cons (o := { dst := some 24, op := Op.call { callee := Callee.value (Operand.func 22), args := #[Operand.tmp 19, Operand.tmp 23], argTypes := #[22, 3] }, type := 22, pos := "digest.go:62", after := #[{ on := 7, ground := Ground.data }, { on := 11, ground := Ground.data }], guard := none }) rfl (fun K hK => ?_) AllReadyH.nil
    rw [if_pos (by rfl)]
    go_simp
    refine (ended_any A n len f hn64 hlen _ (hrx.keep hHeld)).mono ?_
    rintro e w7 ⟨ge, ce, rfl, hce, hce2, hrE, hw7⟩
    refine hK.out _ _ (hHeld.trans hw7) (fun hHeld' => ?_)
    clear hK K
    try simp only [Act.put, List.setIfInBounds_toArray, List.set_cons_zero, List.set_cons_succ]
    have hV' := (hw7.block _ (Array.getElem?_eq_some_iff.1 hV).1).trans hV
    clear hV
    have hV := hV'
    clear hV'
    clear hHeld
    have hHeld := hHeld'
    clear hHeld' hw7
    refine wpAnyH_ready (rs := [13]) (by kernel_rfl) (by simp) ?_
    refine AllReadyH.cons (o := { dst := some 25, op := Op.call { callee := Callee.value (Operand.func 20), args := #[Operand.tmp 15, Operand.tmp 24], argTypes := #[43, 22] }, type := 43, pos := "digest.go:62", after := #[{ on := 3, ground := Ground.data }, { on := 12, ground := Ground.data }, { on := 12, ground := Ground.chain }], guard := none }) rfl (fun K hK => ?_) AllReadyH.nil
    rw [if_pos (by rfl)]
    go_simp
    refine (ptaken_any s hsl _ _ _ (endF f n len) hce hce2 _ hrE (hkx.keep hHeld)).mono ?_
    rintro e w7 ⟨rfl, hw7⟩
    rw [eR.out]
    refine hK.out _ _ (hHeld.trans hw7) (fun hHeld' => ?_)
    clear hK K
    try simp only [Act.put, List.setIfInBounds_toArray, List.set_cons_zero, List.set_cons_succ]
    have hV' := (hw7.block _ (Array.getElem?_eq_some_iff.1 hV).1).trans hV
    clear hV
    have hV := hV'
    clear hV'
    clear hHeld
    have hHeld := hHeld'
    clear hHeld' hw7
    refine wpAnyH_ready (rs := [15]) (by kernel_rfl) (by simp) ?_
    refine AllReadyH.cons (o := { dst := none, op := Op.store 43 (Operand.tmp 3) (Operand.tmp 25), type := 0, pos := "digest.go:62", after := #[{ on := 14, ground := Ground.data }, { on := 13, ground := Ground.data }, { on := 13, ground := Ground.chain }, { on := 0, ground := Ground.phase }, { on := 1, ground := Ground.phase }, { on := 2, ground := Ground.phase }, { on := 3, ground := Ground.phase }, { on := 4, ground := Ground.phase }, { on := 5, ground := Ground.phase }, { on := 6, ground := Ground.phase }, { on := 7, ground := Ground.phase }, { on := 8, ground := Ground.phase }, { on := 9, ground := Ground.phase }, { on := 10, ground := Ground.phase }, { on := 11, ground := Ground.phase }, { on := 12, ground := Ground.phase }, { on := 13, ground := Ground.phase }, { on := 14, ground := Ground.phase }], guard := none }) rfl (fun K hK => ?_) AllReadyH.nil
    rw [if_pos (by rfl)]
    refine wp_store_row 43 _ _ rfl _ (cells8 R) rfl rfl 43 zeros8 hV (hi8 _) rfl (cells8_all _) ?_
    refine hK.out _ _ (setRow_bw hHeld hgv _) (fun hHeld => ?_)
    clear hK K
    try simp only [Act.put, List.setIfInBounds_toArray, List.set_cons_zero, List.set_cons_succ]
    refine wpAnyH_done (by kernel_rfl) ?_ _
    go_wp2
    go_meet
    case rel => exact ⟨_, rfl, setRow_heap _ _ _ _ _ _ hV, hgv, hHeld⟩
  case rest =>
    obtain ⟨g3, rfl, hE, hg3, hbc⟩ := hcut
    have hZl := (Array.getElem?_eq_some_iff.1 hZ).1
    have hZc : wc.heap[w.heap.size]? = some (.cells zeros32 23 (0, 0)) := (hbc.block _ hZl).trans hZ
    have hbw := hbx.trans hbc
    have hEl := (Array.getElem?_eq_some_iff.1 hE).1
    have hal : Bw wc (wc.alloc (.cells zeros32 23)) := (Below.refl _ _).alloc (Nat.le_refl _) _
    have hE1 := hE.keep hal
    unfold EightAt at hE1
    have hS0 : SumAt (wc.alloc (.cells zeros32 23)) wc.heap.size (Sha.dig (nbD F) len) 0 := ⟨_, heap_alloc_new _ _, by simp [zeros32], by kernel_rfl, fun i hi => by omega⟩
    have hZ1 : (wc.alloc (.cells zeros32 23)).heap[w.heap.size]? = some (.cells zeros32 23 (0, 0)) := (hal.block _ (Array.getElem?_eq_some_iff.1 hZc).1).trans hZc
    have hZl' := (Array.getElem?_eq_some_iff.1 hZc).1
    have hbw1 := hbw.trans hal
    clear hHx hrx hkx hs hZ hbx hbc hE hal hZc
    go_wp2_with (refine wpList_load_row rfl 43 _ rfl g3 rfl 43 (cells8 R) (0, 0) _ hE1 Tryd.underlying43 rfl (hi8 R) ?_)
    obtain ⟨d, hd⟩ : ∃ d, Hid (d = Sha.dig (nbD F) len) := ⟨_, rfl⟩
    rw [← hd.out] at hS0
    have hdig' : Hid (∀ i, d i = R (i / 4) / 2 ^ (24 - 8 * (i % 4)) % 256) := by rw [hd.out]; exact hdig
    rename World => wy
    go_loopw [27] (fun i wr => ∃ k : Nat, k ≤ 8 ∧ i = .int .i64 k ∧ SumAt wr wy.heap.size d (4 * k) ∧ wr.heap[w.heap.size]? = some (.cells zeros32 23 (0, 0)) ∧ Bw w wr) (fun i _ => 8 - (intOf i).toNat)
    case atStart => exact ⟨0, Nat.zero_le _, rfl, hS0, hZ1, hbw1⟩
    case round =>
      clear hS0 hZ1 hbw1 hE1
      obtain ⟨k, hk8, rfl, hS, hZr, hbr⟩ := hrel
      rename World => wo
      by_cases hlt : k < 8
      · have hix := fun W : World => index8 W R k hlt
        have k0 : (0 : Int) ≤ (k : Int) := Int.natCast_nonneg _
        have k1 : (k : Int) < 8 := by omega
        have hRk := hRl k
        go_wp2
        go_loopw [31] (fun i wr => ∃ j : Nat, j ≤ 4 ∧ i = .int .i64 j ∧ SumAt wr wy.heap.size d (4 * k + j) ∧ wr.heap[w.heap.size]? = some (.cells zeros32 23 (0, 0)) ∧ Bw w wr) (fun i _ => 4 - (intOf i).toNat)
        case atStart => exact ⟨0, Nat.zero_le _, rfl, hS, hZr, hbr⟩
        case round =>
          obtain ⟨j, hj4, rfl, hS, hZr, hbr⟩ := hrel
          by_cases hlt4 : j < 4
          · obtain ⟨v1, c1, f1⟩ := hS.cell (i := 4 * k + j) (by omega)
            obtain ⟨q, hq⟩ : ∃ q : Nat, 24 - 8 * (j : Int) = (q : Int) := ⟨24 - 8 * j, by omega⟩
            have hval : Hid (((R k : Nat) : Int) / 2 ^ q % 256 = ((d (4 * k + j) : Nat) : Int)) := by
              show _ = _
              rw [hdig'.out, show (4 * k + j) / 4 = k by omega, show 24 - 8 * ((4 * k + j) % 4) = q by omega, Int.natCast_emod, Int.natCast_ediv, Int.natCast_pow]; rfl
            have q0 : (0 : Int) ≤ (q : Int) := Int.natCast_nonneg _
            have q1 : (q : Int) < 32 := by omega
            have j0 : (0 : Int) ≤ (j : Int) := Int.natCast_nonneg _
            have j1 : (j : Int) < 4 := by omega
            have a0 : (0 : Int) ≤ 4 * (k : Int) + (j : Int) := by omega
            have a1 : 4 * (k : Int) + (j : Int) < 32 := by omega
            have a2 : (4 * (k : Int) + (j : Int)).toNat = 4 * k + j := by omega
            go_wp2
            go_roundw
            case rel => exact ⟨j + 1, by omega, by go_num, SumAt.set hS (by omega) hval.out, (heap_setCell_other _ _ _ _ (by simp only; omega)).trans hZr, Bw.put hbr (by have := hbw.size; omega) _ _⟩
            case measure => simp [intOf]; omega
          · have ej : j = 4 := by omega
            subst ej
            go_wp2
            go_roundw
            case rel => exact ⟨k + 1, by omega, by go_num, hS, hZr, hbr⟩
            case measure => simp [intOf]; omega
      · have ek : k = 8 := by omega
        subst ek
        obtain ⟨cur, hcur, hcs, hall, hv⟩ := hS
        have hi32 : (Tryd.prog.info? 23).map (·.size) = some cur.size := by rw [hcs]; kernel_rfl
        have hzs : zeros32.size = cur.size := by rw [hcs]; rfl
        have hv' : Hid (∀ i, i < 32 → cur[i]? = some (.int .u8 ((d i : Nat) : Int))) := hv
        clear hv
        go_wp2_with (first
          | refine wpList_load_row rfl 23 _ rfl wy.heap.size rfl 23 cur (0, 0) _ hcur Tryd.underlying23 rfl hi32 ?_
          | refine wpList_store_row rfl 23 _ _ rfl w.heap.size cur rfl rfl 23 zeros32 hZr hi32 hzs hall ?_)
        exact bodyPost_ret (results_cell_row Tryd.results16 _ _ w.heap.size 23 cur (0, 0) _ rfl (setRow_heap wo w.heap.size _ _ _ _ hZr) Tryd.underlying23 rfl hi32) rfl ⟨cur, rfl, hcs, by rw [← hd.out]; exact hv'.out, setRow_bw hbr (Nat.le_refl _) _⟩

theorem bytes_all {T : Array Value} {d : Nat → Nat} (hs : T.size = 32) (h : ∀ i, i < 32 → T[i]? = some (.int .u8 ((d i : Nat) : Int))) : T.all (·.oneCell') = true := by
  rw [Array.all_eq_true_iff_forall_mem]
  intro x hx
  obtain ⟨i, hi, rfl⟩ := Array.mem_iff_getElem.1 hx
  have h1 := h i (by omega)
  rw [Array.getElem?_eq_getElem hi, Option.some.injEq] at h1
  rw [h1]; rfl

theorem sum_nil (F : Nat → Int) (hF : ∀ i, 0 ≤ F i ∧ F i < 256) (w : World) (hk : KAt w) :
    Calls Tryd.prog 16 #[.pointer none] w fun e w' => ∃ T : Array Value, e = .returned (.agg T) ∧ T.size = 32 ∧ (∀ i, i < 32 → T[i]? = some (.int .u8 ((Sha.dig (nbD F) 0 i : Nat) : Int))) ∧ Bw w w' := by
  have hz := zero32
  have hbx : Bw w (w.alloc (.cells zeros32 23)) := (Below.refl _ _).alloc (Nat.le_refl _) _
  have hZ : (w.alloc (.cells zeros32 23)).heap[w.heap.size]? = some (.cells zeros32 23 (0, 0)) := heap_alloc_new _ _
  have hb2 : Bw (w.alloc (.cells zeros32 23)) ((w.alloc (.cells zeros32 23)).alloc (.cells (hcells Sha.iv none 0 0) 47)) := (Below.refl _ _).alloc (Nat.le_refl _) _
  have hH : HashAt ((w.alloc (.cells zeros32 23)).alloc (.cells (hcells Sha.iv none 0 0) 47)) (w.heap.size + 1) F 0 none := by
    have := new_hash (w.alloc (.cells zeros32 23)) F hF
    rwa [size_alloc] at this
  have hk2 := (hk.keep hbx).keep hb2
  go_enter Tryd.func16, Tryd.ntmps16
  go_wp2_with (first
    | (go_at_call 14; refine (new_any _).mono ?_; rintro e w1 ⟨rfl, hw1⟩; subst w1; try rw [size_alloc])
    | (go_at_call 16; refine (sum_any _ F 0 none (by omega) _ hH hk2).mono ?_; rintro e w2 ⟨T, rfl, hTs, hT, hw2⟩; have hi32 : (Tryd.prog.info? 23).map (·.size) = some T.size := (by rw [hTs]; kernel_rfl); have hall := bytes_all hTs hT; have hZ2 : w2.heap[w.heap.size]? = some (.cells zeros32 23 (0, 0)) := ((hb2.trans hw2).block _ (Array.getElem?_eq_some_iff.1 hZ).1).trans hZ; have hzs : zeros32.size = T.size := (by rw [hTs]; rfl); have hT' : Hid (∀ i, i < 32 → T[i]? = some (.int .u8 ((Sha.dig (nbD F) 0 i : Nat) : Int))) := hT; clear hT)
    | refine wpList_store_row rfl 23 _ _ rfl w.heap.size T rfl rfl 23 zeros32 hZ2 hi32 hzs hall ?_)
  exact bodyPost_ret (results_cell_row Tryd.results16 _ _ w.heap.size 23 T (0, 0) _ rfl (setRow_heap w2 w.heap.size _ _ _ _ hZ2) Tryd.underlying23 rfl hi32) rfl ⟨T, rfl, hTs, hT'.out, setRow_bw (hbx.trans (hb2.trans hw2)) (Nat.le_refl _) _⟩
end Go.Proofs.YtcpapaceggnaoaaDoor

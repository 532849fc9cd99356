/- Contract of the document's own Of, of layer 5. -/
import Derived.Test.YtcpapaceggnaoaaDoorD3
namespace Go.Proofs.YtcpapaceggnaoaaDoor
open Go.RowKit Go.Deep

/-- the bytes and what stands behind them, as whole numbers -/
def padI (f : Nat → Int) (L i : Nat) : Int := ((Sha.pad (nbD f) L i : Nat) : Int)
theorem padI_bd {f : Nat → Int} (hf : ∀ i, 0 ≤ f i ∧ f i < 256) (L i : Nat) : 0 ≤ padI f L i ∧ padI f L i < 256 := by
  have := Sha.pad_lt (nbD_lt hf) L i
  unfold padI; omega
theorem padI_lo {f : Nat → Int} (hf : ∀ i, 0 ≤ f i ∧ f i < 256) (L i : Nat) (h : i < L) : padI f L i = f i := by
  unfold padI Sha.pad; rw [if_pos h, ← nbD_eq hf]
theorem padI_one (f : Nat → Int) (L : Nat) : padI f L L = 128 := by
  unfold padI Sha.pad; rw [if_neg (by omega), if_pos rfl]; rfl
theorem padI_zero (f : Nat → Int) (L i : Nat) (h : L < i) (h2 : i < 64 * Sha.blocks L - 8) : padI f L i = 0 := by
  unfold padI Sha.pad; rw [if_neg (by omega), if_neg (by omega), if_pos h2]; rfl
theorem padI_len (f : Nat → Int) (L j : Nat) (hj : j < 8) : padI f L (64 * Sha.blocks L - 8 + j) = ((8 * L / 2 ^ (8 * (7 - j)) % 256 : Nat) : Int) := by
  have h : L + 8 < 64 * Sha.blocks L := by unfold Sha.blocks; omega
  unfold padI Sha.pad
  rw [if_neg (by omega), if_neg (by omega), if_neg (by omega), show 64 * Sha.blocks L - 1 - (64 * Sha.blocks L - 8 + j) = 7 - j by omega]

def zeros32 : Array Value := Array.replicate 32 (.int .u8 0)
theorem zero32 (w : World) : (zeroValue 23).run Tryd.prog w = .ok (.agg zeros32) w := by kernel_rfl

theorem row_cut {w : World} {g o n m : Nat} {f : Nat → Int} (h : RowAt w (some ⟨g, 0, none⟩) n f) (hm : o + m ≤ n) : RowAt w (some ⟨g, o, none⟩) m (fun c => f (o + c)) := by
  refine ⟨?_, fun i => h.2 _⟩
  by_cases h0 : m = 0
  · exact Or.inl h0
  · obtain ⟨b, off, e, hc⟩ := h.at (k := 0) (by omega)
    cases e
    exact Or.inr ⟨g, o, rfl, fun i hi => by have := hc (o + i) (by omega); rwa [Nat.zero_add] at this⟩
/-- a list's length -/
def lenOf : Value → Nat
  | .slice _ n _ => n
  | _ => 0
theorem cellsU_congr {f g : Nat → Int} {n : Nat} (h : ∀ i, i < n → f i = g i) : cellsU f n = cellsU g n :=
  List.map_congr_left fun i hi => by rw [h i (List.mem_range.1 hi)]

set_option linter.unusedSimpArgs false in
set_option maxRecDepth 100000 in
set_option maxHeartbeats 4000000 in
theorem of_any (A : Option Addr) (L ca : Nat) (f : Nat → Int) (hL : L ≤ 1000000000) (w : World) (hrow : RowAt w A L f) (hnil : A = none → ca = 0) :
    Calls Tryd.prog 11 #[.slice A L ca] w fun e w' => ∃ T : Array Value, e = .returned (.agg T) ∧ T.size = 32 ∧ (∀ i, i < 32 → T[i]? = some (.int .u8 ((Sha.dig (nbD f) L i : Nat) : Int))) ∧ Bw w w' := by
  obtain ⟨i0, hi0, hz0, hz1, hz2⟩ := info_parts info_u8
  have hz := zero32
  have hz8 := zero8
  have hi8 := info8
  have hmx : 0 + L ≤ maxLen := by unfold maxLen; omega
  have hbw0 : Bw w (w.alloc (.cells zeros32 23)) := (Below.refl _ _).alloc (Nat.le_refl _) _
  have hN : L + 8 < 64 * Sha.blocks L ∧ 64 * Sha.blocks L ≤ L + 72 := by unfold Sha.blocks; omega
  obtain ⟨N, hNe⟩ : ∃ N, Hid (N = 64 * Sha.blocks L - 8) := ⟨_, rfl⟩
  have hN1 : L + 1 ≤ N ∧ N ≤ L + 64 ∧ N % 64 = 56 := by have := hNe.out; omega
  have hres0 : (w.alloc (.cells zeros32 23)).heap[w.heap.size]? = some (.cells zeros32 23 (0, 0)) := heap_alloc_new _ _
  obtain ⟨wz, hwz⟩ : ∃ wz, wz = w.alloc (.cells zeros32 23) := ⟨_, rfl⟩
  have szz : wz.heap.size = w.heap.size + 1 := by rw [hwz, size_alloc]
  have hown0 : ((w.alloc (.cells zeros32 23)).alloc (.cells #[] 5)).ownsRow (w.heap.size + 1) 5 1 (.slice (some ⟨w.heap.size + 1, 0, none⟩) 0 0) 0 [] := by
    have := own_empty (w.alloc (.cells zeros32 23)) (w.heap.size + 1) 5 (by rw [size_alloc]; omega)
    rwa [size_alloc] at this
  have hbz : Below (w.heap.size + 1) wz ((w.alloc (.cells zeros32 23)).alloc (.cells #[] 5)) := by rw [hwz]; exact (Below.refl _ _).alloc (by rw [size_alloc]; omega) _
  have hrowz : RowAt ((w.alloc (.cells zeros32 23)).alloc (.cells #[] 5)) A L f := (hrow.keep hbw0).keep ((Below.refl _ _).alloc (Nat.le_refl _) _)
  go_enter Tryd.func11, Tryd.ntmps11
  go_wp2_with (first
    | (at_builtin; refine wpList_append_rowat _ (by rfl) (.tmp 10) (.tmp 11) _ (by rfl) (w.heap.size + 1) 5 i0 _ 1 Tryd.underlying22 hi0 hz0 hz1 hz2 rfl _ _ _ (by rfl) hown0 A L ca f (by rfl) hrowz hnil hmx (by omega) (by simp) ?_; intro v1 w1 hown1 hgrow1; simp only [Nat.zero_add, List.nil_append] at hown1; have bw1 := bw_grow hgrow1 hbz (by rw [size_alloc, size_alloc]; omega) hown0; have sz1 := bw1.size; rw [szz] at sz1)
    | (at_builtin; refine wpList_append_lies _ (by rfl) (.tmp 13) (.tmp 14) _ (by rfl) (w.heap.size + 1) 5 i0 _ 1 1 Tryd.underlying22 hi0 hz0 hz1 hz2 rfl (by omega) _ _ _ (by rfl) (hown1.alloc _) ⟨w1.heap.size, 0, none⟩ 1 1 [_] (by rfl) (by rfl) (World.news_of_block (cs := #[_]) (t := 5) (fr := (0, 0)) (heap_alloc_new w1 _)) (by simp [Value.oneCell']) (by omega) (by unfold maxLen; omega) (by omega) (by simp; omega) (w1.heap.size + 1) (by simp) ?_; intro g2 c2 w2 hown2 hgrow2 hat2 hlt2))
  have bw2 : Below (w.heap.size + 1) wz w2 := bw_grow hgrow2 (Below.alloc bw1 sz1 _) (by rw [size_alloc]; omega) (hown1.alloc _)
  have hc2 : cellsU f L ++ [.int .u8 128] = cellsU (padI f L) (L + 1) := by rw [cellsU_succ, padI_one, cellsU_congr (fun i hi => padI_lo hrow.2 L i hi)]
  rw [hc2] at hown2
  clear hc2 hgrow2 hat2 hlt2 hown1 bw1 hown0 hbz hrowz hbw0 hgrow1 sz1
  go_loopw [3] (fun v wr => ∃ n g cap : Nat, L + 1 ≤ n ∧ n ≤ N ∧ v = .slice (some ⟨g, 0, none⟩) n cap ∧ wr.ownsRow (w.heap.size + 1) 5 1 (.slice (some ⟨g, 0, none⟩) n cap) n (cellsU (padI f L) n) ∧ Below (w.heap.size + 1) wz wr) (fun v _ => N - lenOf v)
  case atStart => exact ⟨L + 1, g2, c2, Nat.le_refl _, hN1.1, rfl, hown2, bw2⟩
  case round =>
    obtain ⟨n, g, cap, hn1, hn2, rfl, hown, hbw⟩ := hrel
    have szr := hbw.size
    rw [szz] at szr
    by_cases hmod : n % 64 = 56
    · have hnN : n = N := by omega
      have m1 : ((n : Int) % 64 != 56) = false := by rw [bne_eq_false_iff_eq]; omega
      have m2 : ((n : Int).tmod 64 != 56) = false := by rw [bne_eq_false_iff_eq, Int.tmod_eq_emod_of_nonneg (by omega)]; omega
      subst hnN
      clear hown2 bw2
      rename World => wo
      go_wp2
      go_loopw [3, 5] (fun v i wr => ∃ j g cap : Nat, j ≤ 8 ∧ i = .int .i64 (56 - 8 * (j : Int)) ∧ v = .slice (some ⟨g, 0, none⟩) (n + j) cap ∧ wr.ownsRow (w.heap.size + 1) 5 1 (.slice (some ⟨g, 0, none⟩) (n + j) cap) (n + j) (cellsU (padI f L) (n + j)) ∧ Below (w.heap.size + 1) wz wr) (fun v _ _ => n + 8 - lenOf v)
      case atStart => exact ⟨0, g, cap, Nat.zero_le _, rfl, rfl, hown, hbw⟩
      case round =>
        obtain ⟨j, g', cap', hj, rfl, rfl, hown', hbw'⟩ := hrel
        have szr' := hbw'.size
        rw [szz] at szr'
        by_cases hlt : j < 8
        · obtain ⟨q, hq⟩ : ∃ q : Nat, 56 - 8 * (j : Int) = (q : Int) := ⟨8 * (7 - j), by omega⟩
          have hval : Hid ((L : Int) * 8 / 2 ^ q % 256 = padI f L (n + j)) := by
            show _ = _
            have hp := padI_len f L j hlt
            rw [← hNe.out, show 8 * (7 - j) = q by omega] at hp
            rw [hp, Int.natCast_emod, Int.natCast_ediv, Int.natCast_mul, Int.natCast_pow, Int.mul_comm]; rfl
          have q0 : (0 : Int) ≤ (q : Int) := Int.natCast_nonneg _
          have q1 : (q : Int) < 64 := by omega
          rw [hq]
          have hq' : Hid (56 - 8 * (j : Int) = (q : Int)) := hq
          clear hq
          have hL8 : (0 : Int) ≤ (L : Int) * 8 := by omega
          have hL9 : (L : Int) * 8 < 18446744073709551616 := by omega
          clear hown
          go_wp2_with (at_builtin; refine wpList_append_lies _ (by rfl) (.tmp 31) (.tmp 36) _ (by rfl) (w.heap.size + 1) 5 i0 _ 1 1 Tryd.underlying22 hi0 hz0 hz1 hz2 rfl (by omega) _ _ _ (by rfl) (hown'.alloc _) ⟨wr.heap.size, 0, none⟩ 1 1 [_] (by rfl) (by rfl) (World.news_of_block (cs := #[_]) (t := 5) (fr := (0, 0)) (heap_alloc_new wr _)) (by simp [Value.oneCell']) (by omega) (by unfold maxLen; omega) (by omega) (by simp; omega) (wr.heap.size + 1) (by simp) ?_; intro g4 c4 w4 hown4 hgrow4 hat4 hlt4)
          go_roundw
          case rel => exact ⟨j + 1, g4, c4, by omega, by have := hq'.out; rw [← this]; go_num, rfl, by rw [show n + (j + 1) = n + j + 1 from rfl, cellsU_succ, ← hval.out]; exact hown4, bw_grow hgrow4 (Below.alloc hbw' szr' _) (by rw [size_alloc]; omega) (hown'.alloc _)⟩
          case measure => simp [lenOf]; omega
        · have e8 : j = 8 := by omega
          subst e8
          obtain ⟨B, hB⟩ : ∃ B, Hid (B = Sha.blocks L) := ⟨_, rfl⟩
          have hM : n + 8 = 64 * B := by have := hNe.out; have := hB.out; omega
          have hBb : 64 * B ≤ 1000000072 := by have := hB.out; omega
          obtain ⟨g5, c5, e5, hg5, hc5, hc5', ho5⟩ := Own.of hown' (by omega)
          cases e5
          have hrow5 := ho5.row (padI_bd hrow.2 L)
          have hres5 : wr.heap[w.heap.size]? = some (.cells zeros32 23 (0, 0)) := (hbw'.block _ (by omega)).trans (by rw [hwz]; exact hres0)
          have hbw5 : Bw w wr := Bw.trans (show Bw w wz by rw [hwz]; exact (Below.refl _ _).alloc (Nat.le_refl _) _) (by rw [← szz] at hbw'; exact hbw')
          clear hown hown' hbw hbw' hres0 hlt hn1 hn2 hmod m1 m2 hN1 hN hmx
          go_wp2_with (first
            | refine wpList_built rfl 43 _ rfl (cells8 Sha.iv) (by kernel_rfl) ?_
            | (refine wpList_store_row rfl 43 _ _ rfl _ (cells8 Sha.iv) rfl rfl 43 zeros8 (heap_alloc_new _ _) (hi8 _) rfl (cells8_all _) ?_; rw [setRow_alloc_new]))
          rename World => w5
          obtain ⟨AF, hA0, hA1, hAl, hAe⟩ : ∃ AF : Nat → Nat → Nat, Hid (AF 0 = Sha.iv) ∧ Hid (∀ k, AF (k + 1) = Sha.taken (AF k) (fun i => Sha.pad (nbD f) L (64 * k + i))) ∧ (∀ k i, AF k i < 4294967296) ∧ Hid (AF = Sha.after (Sha.pad (nbD f) L)) := by
            refine ⟨Sha.after (Sha.pad (nbD f) L), ?_, ?_, Sha.after_lt _, ?_⟩
            · show Sha.after _ 0 = Sha.iv
              rfl
            · show ∀ k, _ = _
              intro k
              rfl
            · show _ = _
              rfl
          obtain ⟨w6, hw6⟩ : ∃ w6, w6 = w5.alloc (.cells (cells8 Sha.iv) 43) := ⟨_, rfl⟩
          rw [← hw6]
          have hb6 : Bw w5 w6 := by rw [hw6]; exact (Below.refl _ _).alloc (Nat.le_refl _) _
          have hE6 : EightAt w6 w5.heap.size Sha.iv := by rw [hw6]; exact heap_alloc_new _ _
          have hrow6 := hrow5.keep hb6
          have hres6 : w6.heap[w.heap.size]? = some (.cells zeros32 23 (0, 0)) := (hb6.block _ (by omega)).trans hres5
          have hbw6 := hbw5.trans hb6
          have hg6 := ho5.lt
          rw [hM] at hrow6 hc5
          clear hw6 hb6 hrow5 hres5 hbw5 ho5 hz8
          go_loopw [7] (fun i wr => ∃ k : Nat, k ≤ B ∧ i = .int .i64 (64 * (k : Int)) ∧ EightAt wr w5.heap.size (AF k) ∧ Bx (· = w5.heap.size) w6 wr) (fun i _ => 64 * B - (intOf i).toNat)
          case atStart => exact ⟨0, Nat.zero_le _, rfl, by rw [hA0.out]; exact hE6, Bx.refl _ _⟩
          case round =>
            obtain ⟨k, hk, rfl, hE, hx⟩ := hrel
            rename World => wx
            by_cases hkB : k < B
            · obtain ⟨r, hr⟩ : ∃ r, Hid (r = AF k) := ⟨_, rfl⟩
              rw [← hr.out] at hE
              have hrl : ∀ i, r i < 4294967296 := by rw [hr.out]; exact hAl k
              have hrx : RowAt wx (some ⟨g', 0, none⟩) (64 * B) (padI f L) := hrow6.keepx hx (fun b o e _ => by cases e; omega)
              have hrk : RowAt wx.drew (some ⟨g', 64 * k, none⟩) 64 (fun c => padI f L (64 * k + c)) := row_cut hrx (by omega)
              have k0 : (0 : Int) ≤ 64 * (k : Int) := by omega
              have k1 : (64 : Int) * (k : Int) < 64 * (B : Int) := by omega
              have k2 : (64 : Int) * (k : Int) ≤ 64 * (k : Int) + 64 := by omega
              have k3 : (64 : Int) * (k : Int) + 64 ≤ (cap' : Int) := by omega
              have k4 : IntKind.i64.wrap (64 * (k : Int) + 64) = 64 * (k : Int) + 64 := by rw [IntKind.wrap_i64]; omega
              have k5 : (64 * (k : Int)).toNat = 64 * k := by omega
              have k6 : (64 * (k : Int) + 64).toNat = 64 * k + 64 := by omega
              have k7 : ¬ cap' = 64 * k := by omega
              have k8 : 64 * k + 64 - 64 * k = 64 := by omega
              go_wp2
              -- REGION 14 BEGINS
              refine wp_region_held_drew (S := fun _ => True) (by kernel_rfl) trivial (fun hHeld => ?_)
              refine wpAnyH_take (i := 1) (oi := { dst := some 46, op := Op.move (Operand.tmp 3), type := 22, pos := "ref.go:69", after := #[], guard := none }) (v := ?_) rfl (by kernel_rfl) (by kernel_rfl) (by kernel_rfl) (fun _ _ _ h => h) (Or.inl ⟨by rfl, ?_⟩) (by assumption) ?_
              rotate_left
              · intro w hSw; (try dsimp only at hSw); go_simp; all_goals (with_reducible rfl)
              try simp only [Act.put, List.setIfInBounds_toArray, List.set_cons_zero, List.set_cons_succ]
              refine wpAnyH_take (i := 2) (oi := { dst := some 47, op := Op.move (Operand.tmp 7), type := 3, pos := "ref.go:69", after := #[], guard := none }) (v := ?_) rfl (by kernel_rfl) (by kernel_rfl) (by kernel_rfl) (fun _ _ _ h => h) (Or.inl ⟨by rfl, ?_⟩) (by assumption) ?_
              rotate_left
              · intro w hSw; (try dsimp only at hSw); go_simp; all_goals (with_reducible rfl)
              try simp only [Act.put, List.setIfInBounds_toArray, List.set_cons_zero, List.set_cons_succ]
              refine wpAnyH_take (i := 3) (oi := { dst := some 48, op := Op.move (Operand.tmp 7), type := 3, pos := "ref.go:69", after := #[], guard := none }) (v := ?_) rfl (by kernel_rfl) (by kernel_rfl) (by kernel_rfl) (fun _ _ _ h => h) (Or.inl ⟨by rfl, ?_⟩) (by assumption) ?_
              rotate_left
              · intro w hSw; (try dsimp only at hSw); go_simp; all_goals (with_reducible rfl)
              try simp only [Act.put, List.setIfInBounds_toArray, List.set_cons_zero, List.set_cons_succ]
              refine wpAnyH_take (i := 4) (oi := { dst := some 49, op := Op.binOp BinOp.add 3 (Operand.tmp 48) (Operand.const (Value.int IntKind.i64 64)) 3, type := 3, pos := "ref.go:69", after := #[{ on := 3, ground := Ground.data }], guard := none }) (v := ?_) rfl (by kernel_rfl) (by kernel_rfl) (by kernel_rfl) (fun _ _ _ h => h) (Or.inl ⟨by rfl, ?_⟩) (by assumption) ?_
              rotate_left
              · intro w hSw; (try dsimp only at hSw); go_simp; all_goals (with_reducible rfl)
              try simp only [Act.put, List.setIfInBounds_toArray, List.set_cons_zero, List.set_cons_succ]
              refine wpAnyH_take (i := 5) (oi := { dst := some 50, op := Op.slice 22 (Operand.tmp 46) (some (Operand.tmp 47)) (some (Operand.tmp 49)) none, type := 22, pos := "ref.go:69", after := #[{ on := 1, ground := Ground.data }, { on := 2, ground := Ground.data }, { on := 4, ground := Ground.data }], guard := none }) (v := ?_) rfl (by kernel_rfl) (by kernel_rfl) (by kernel_rfl) (fun _ _ _ h => h) (Or.inl ⟨by rfl, ?_⟩) (by assumption) ?_
              rotate_left
              · intro w hSw; (try dsimp only at hSw); go_simp; all_goals (with_reducible rfl)
              try simp only [Act.put, List.setIfInBounds_toArray, List.set_cons_zero, List.set_cons_succ]
              refine wpAnyH_ready (rs := [0]) (by kernel_rfl) (by simp) ?_
              refine AllReadyH.cons (o := { dst := some 45, op := Op.load 43 (Operand.tmp 6), type := 43, pos := "ref.go:69", after := #[], guard := none }) rfl (fun K hK => ?_) AllReadyH.nil
              rw [if_pos (by rfl)]
              refine wp_load_row 43 _ rfl w5.heap.size rfl 43 (cells8 r) (0, 0) _ hE Tryd.underlying43 rfl (hi8 r) ?_
              refine hK.out _ _ trivial (fun hHeld => ?_)
              clear hK K
              try simp only [Act.put, List.setIfInBounds_toArray, List.set_cons_zero, List.set_cons_succ]
              refine wpAnyH_ready (rs := [6]) (by kernel_rfl) (by simp) ?_
              refine AllReadyH.cons (o := { dst := some 51, op := Op.call { callee := Callee.value (Operand.func 19), args := #[Operand.tmp 45, Operand.tmp 50], argTypes := #[43, 22] }, type := 43, pos := "ref.go:69", after := #[{ on := 0, ground := Ground.data }, { on := 5, ground := Ground.data }], guard := none }) rfl (fun K hK => ?_) AllReadyH.nil
              rw [if_pos (by rfl)]
              go_simp
              refine (taken_any r hrl _ 64 _ (fun c => padI f L (64 * k + c)) (by omega) (by omega) _ hrk).mono ?_
              rintro e w7 ⟨rfl, hw7⟩
              obtain ⟨m, hm⟩ : ∃ m, Hid (m = Sha.taken r (nbD fun c => padI f L (64 * k + c))) := ⟨_, rfl⟩
              rw [← hm.out]
              refine hK.out _ _ trivial (fun hHeld => ?_)
              clear hK K
              try simp only [Act.put, List.setIfInBounds_toArray, List.set_cons_zero, List.set_cons_succ]
              refine wpAnyH_ready (rs := [7]) (by kernel_rfl) (by simp) ?_
              refine AllReadyH.cons (o := { dst := none, op := Op.store 43 (Operand.tmp 6) (Operand.tmp 51), type := 0, pos := "ref.go:69", after := #[{ on := 6, ground := Ground.data }, { on := 6, ground := Ground.chain }, { on := 0, ground := Ground.phase }, { on := 1, ground := Ground.phase }, { on := 2, ground := Ground.phase }, { on := 3, ground := Ground.phase }, { on := 4, ground := Ground.phase }, { on := 5, ground := Ground.phase }, { on := 6, ground := Ground.phase }], guard := none }) rfl (fun K hK => ?_) AllReadyH.nil
              rw [if_pos (by rfl)]
              refine wp_store_row 43 _ _ rfl w5.heap.size (cells8 m) rfl rfl 43 (cells8 r) (EightAt.keep (w := wx.drew) hE hw7) (hi8 _) rfl (cells8_all _) ?_
              refine hK.out _ _ trivial (fun hHeld => ?_)
              clear hK K
              try simp only [Act.put, List.setIfInBounds_toArray, List.set_cons_zero, List.set_cons_succ]
              refine wpAnyH_done (by kernel_rfl) ?_ _
              -- REGION 14 ENDS
              go_wp2
              go_roundw
              case rel =>
                refine ⟨k + 1, by omega, congrArg (Value.int .i64) (by omega), eight_setRow (EightAt.keep (w := wx.drew) hE hw7) ?_, (hx.drew.trans (Bx.of_bw hw7)).trans (setRow_bx w7 _ _)⟩
                rw [hA1.out, ← hr.out, hm.out]
                exact congrArg (Sha.taken r) (funext fun i => (Int.toNat_natCast _).symm)
              case measure => simp [intOf]; omega
            · have ekB : k = B := by omega
              subst ekB
              obtain ⟨F, hF⟩ : ∃ F, Hid (F = AF k) := ⟨_, rfl⟩
              rw [← hF.out] at hE
              have hFl : ∀ i, F i < 4294967296 := by rw [hF.out]; exact hAl k
              have hbwx : Bw w wx := Below.trans hbw6 (hx.below hbw6.size (fun b e => by omega))
              have hresx : wx.heap[w.heap.size]? = some (.cells zeros32 23 (0, 0)) := (hx.block _ (Array.getElem?_eq_some_iff.1 hres6).1 (by omega)).trans hres6
              have hdig : Hid (∀ i, Sha.dig (nbD f) L i = F (i / 4) / 2 ^ (24 - 8 * (i % 4)) % 256) := fun i => by rw [hF.out, hAe.out, hB.out]; rfl
              have hlx := (Array.getElem?_eq_some_iff.1 hE).1
              have hbx7 : Bw w (wx.alloc (.cells zeros32 23)) := Below.alloc hbwx hbwx.size _
              have hE7 : EightAt (wx.alloc (.cells zeros32 23)) w5.heap.size F := hE.keep ((Below.refl _ _).alloc (Nat.le_refl _) _)
              have hres7 : (wx.alloc (.cells zeros32 23)).heap[w.heap.size]? = some (.cells zeros32 23 (0, 0)) := (((Below.refl _ _).alloc (Nat.le_refl _) _ : Bw wx _).block _ (Array.getElem?_eq_some_iff.1 hresx).1).trans hresx
              have hszx := hbwx.size
              have hlr := (Array.getElem?_eq_some_iff.1 hresx).1
              clear hx hE hresx hres6 hrow6 hbw6 hE6 hA0 hA1 hAl hkB hk
              go_wp2
              go_loopw [9] (fun i wr => ∃ k : Nat, k ≤ 32 ∧ i = .int .i64 k ∧ (∃ cur, wr.heap[wx.heap.size]? = some (.cells cur 23 (0, 0)) ∧ cur.size = 32 ∧ cur.all (·.oneCell') = true ∧ ∀ i, i < k → cur[i]? = some (.int .u8 ((Sha.dig (nbD f) L i : Nat) : Int))) ∧ EightAt wr w5.heap.size F ∧ wr.heap[w.heap.size]? = some (.cells zeros32 23 (0, 0)) ∧ Bw w wr) (fun i _ => 32 - (intOf i).toNat)
              case atStart => exact ⟨0, Nat.zero_le _, rfl, ⟨_, heap_alloc_new _ _, by simp [zeros32], by kernel_rfl, fun i hi => by omega⟩, hE7, hres7, hbx7⟩
              case round =>
                obtain ⟨i, hi, rfl, ⟨cur, hcur, hcs, hall, hv⟩, hEr, hZr, hbr⟩ := hrel
                by_cases hlt : i < 32
                · obtain ⟨v1, hv1⟩ : ∃ v, cur[i]? = some v := ⟨_, Array.getElem?_eq_getElem (by omega)⟩
                  have hxc : wr.cell? ⟨wx.heap.size, i, none⟩ = some v1 := (cell_of_row wr wx.heap.size i cur _ _ hcur).trans hv1
                  have hxf : wr.frozen? ⟨wx.heap.size, i, none⟩ = false := frozen_of_row wr wx.heap.size i cur _ hcur
                  obtain ⟨j, hj⟩ : ∃ j : Nat, (i : Int) / 4 = (j : Int) := ⟨i / 4, by omega⟩
                  obtain ⟨r4, hr4⟩ : ∃ r4 : Nat, (i : Int) % 4 = (r4 : Int) := ⟨i % 4, by omega⟩
                  obtain ⟨q, hq⟩ : ∃ q : Nat, 24 - 8 * (r4 : Int) = (q : Int) := ⟨24 - 8 * r4, by omega⟩
                  have hjl : j < 8 := by omega
                  have hc := (hEr.cell j hjl).1
                  have hFj := hFl j
                  have hval : Hid (((F j : Nat) : Int) / 2 ^ q % 256 = ((Sha.dig (nbD f) L i : Nat) : Int)) := by
                    show _ = _
                    rw [hdig.out, show i / 4 = j by omega, show 24 - 8 * (i % 4) = q by omega, Int.natCast_emod, Int.natCast_ediv, Int.natCast_pow]; rfl
                  have b0 : (0 : Int) ≤ (i : Int) := Int.natCast_nonneg _
                  have b1 : (i : Int) < 32 := by omega
                  have b2 : (0 : Int) ≤ (j : Int) := Int.natCast_nonneg _
                  have b3 : (j : Int) < 8 := by omega
                  have b4 : (0 : Int) ≤ (q : Int) := Int.natCast_nonneg _
                  have b5 : (q : Int) < 32 := by omega
                  have b6 : (r4 : Int) < 4 := by omega
                  have b7 : (0 : Int) ≤ (r4 : Int) := Int.natCast_nonneg _
                  have hv' : Hid (∀ k, k < i → cur[k]? = some (.int .u8 ((Sha.dig (nbD f) L k : Nat) : Int))) := hv
                  clear hv
                  go_wp2
                  go_roundw
                  case rel =>
                    refine ⟨i + 1, by omega, by go_num, ⟨_, heap_setCell_same wr _ i cur _ _ hcur, by simpa using hcs, ?_, fun k hk => ?_⟩, (heap_setCell_other _ _ _ _ (by simp only; omega)).trans hEr, (heap_setCell_other _ _ _ _ (by simp only; omega)).trans hZr, Bw.put hbr (by omega) _ _⟩
                    · rw [Array.all_eq_true_iff_forall_mem] at hall ⊢
                      intro x hx
                      rcases Array.mem_or_eq_of_mem_setIfInBounds hx with h | h
                      · exact hall x h
                      · subst h; rfl
                    · by_cases e : k = i
                      · subst e; rw [Array.getElem?_setIfInBounds_self_of_lt (by omega), hval.out]
                      · rw [Array.getElem?_setIfInBounds_ne (Ne.symm e), hv'.out k (by omega)]
                  case measure => simp [intOf]; omega
                · have e32 : i = 32 := by omega
                  subst e32
                  have hi32 : (Tryd.prog.info? 23).map (·.size) = some cur.size := by rw [hcs]; kernel_rfl
                  have hv' : Hid (∀ k, k < 32 → cur[k]? = some (.int .u8 ((Sha.dig (nbD f) L k : Nat) : Int))) := hv
                  have hzs : zeros32.size = cur.size := by rw [hcs]; rfl
                  clear hv hdig
                  go_wp2_with (first
                    | refine wpList_load_row rfl 23 _ rfl wx.heap.size rfl 23 cur (0, 0) _ hcur Tryd.underlying23 rfl hi32 ?_
                    | refine wpList_store_row rfl 23 _ _ rfl w.heap.size cur rfl rfl 23 zeros32 hZr hi32 hzs hall ?_)
                  exact bodyPost_ret (results_cell_row Tryd.results11 _ _ w.heap.size 23 cur (0, 0) _ rfl (setRow_heap wr w.heap.size _ _ _ _ hZr) Tryd.underlying23 rfl hi32) rfl ⟨cur, rfl, hcs, hv'.out, setRow_bw hbr (Nat.le_refl _) _⟩
    · have hlt : n < N := by omega
      have m1 : ((n : Int) % 64 != 56) = true := by rw [bne_iff_ne]; omega
      have m2 : ((n : Int).tmod 64 != 56) = true := by rw [bne_iff_ne, Int.tmod_eq_emod_of_nonneg (by omega)]; omega
      have hp : padI f L n = 0 := padI_zero f L n (by omega) (by have := hNe.out; omega)
      go_wp2_with (at_builtin; refine wpList_append_lies _ (by rfl) (.tmp 20) (.tmp 21) _ (by rfl) (w.heap.size + 1) 5 i0 _ 1 1 Tryd.underlying22 hi0 hz0 hz1 hz2 rfl (by omega) _ _ _ (by rfl) (hown.alloc _) ⟨wr.heap.size, 0, none⟩ 1 1 [_] (by rfl) (by rfl) (World.news_of_block (cs := #[_]) (t := 5) (fr := (0, 0)) (heap_alloc_new wr _)) (by simp [Value.oneCell']) (by omega) (by unfold maxLen; omega) (by omega) (by simp; omega) (wr.heap.size + 1) (by simp) ?_; intro g4 c4 w4 hown4 hgrow4 hat4 hlt4)
      go_roundw
      case rel => exact ⟨n + 1, g4, c4, by omega, by omega, rfl, by rw [cellsU_succ, hp]; exact hown4, bw_grow hgrow4 (Below.alloc hbw szr _) (by rw [size_alloc]; omega) (hown.alloc _)⟩
      case measure => simp [lenOf]; omega
end Go.Proofs.YtcpapaceggnaoaaDoor

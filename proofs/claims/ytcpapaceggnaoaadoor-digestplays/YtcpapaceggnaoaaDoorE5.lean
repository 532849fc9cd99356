/- Contract of the program's own taken: the whole blocks of bytes, taken into a state. -/
import Derived.Test.YtcpapaceggnaoaaDoorE3
import Derived.Test.YtcpapaceggnaoaaDoorE4
import Derived.Deep.CutRange
namespace Go.Proofs.YtcpapaceggnaoaaDoor
open Go.RowKit Go.Deep

/-- the state behind n blocks, from s on -/
def runS (s g : Nat → Nat) : Nat → Nat → Nat
  | 0 => s
  | n + 1 => Sha.taken (runS s g n) (fun i => g (64 * n + i))
theorem runS_lt {s g : Nat → Nat} (hs : ∀ i, s i < 4294967296) : ∀ n i, runS s g n i < 4294967296
  | 0, i => hs i
  | _ + 1, i => Sha.taken_lt _ _ i
theorem runS_after (g : Nat → Nat) : ∀ n, runS Sha.iv g n = Sha.after g n
  | 0 => rfl
  | n + 1 => by
    show Sha.taken (runS Sha.iv g n) _ = Sha.taken (Sha.after g n) _
    rw [runS_after g n]
theorem runS_congr {s g h : Nat → Nat} : ∀ n, (∀ i, i < 64 * n → g i = h i) → runS s g n = runS s h n
  | 0, _ => rfl
  | n + 1, e => by
    show Sha.taken (runS s g n) _ = Sha.taken (runS s h n) _
    rw [runS_congr n (fun i hi => e i (by omega))]
    exact Sha.taken_congr (fun i hi => e _ (by omega))
theorem runS_add (s g : Nat → Nat) (m : Nat) : ∀ n, runS (runS s g m) (fun i => g (64 * m + i)) n = runS s g (m + n)
  | 0 => rfl
  | n + 1 => by
    show Sha.taken (runS (runS s g m) _ n) _ = Sha.taken (runS s g (m + n)) (fun i => g (64 * (m + n) + i))
    rw [runS_add s g m n]
    exact congrArg (Sha.taken _) (funext fun i => by dsimp only; rw [show 64 * m + (64 * n + i) = 64 * (m + n) + i by omega])

theorem fresh8 {W w' : World} (_ : Bw W (w'.alloc (.cells zeros8 43))) : (w'.alloc (.cells zeros8 43)).heap[w'.heap.size]? = some (.cells zeros8 43 (0, 0)) := heap_alloc_new _ _

theorem fresh8d {W w' : World} (_ : Bw W (w'.alloc (.cells zeros8 43)).drew) : (w'.alloc (.cells zeros8 43)).drew.heap[w'.heap.size]? = some (.cells zeros8 43 (0, 0)) := heap_alloc_new _ _

/-- a row behind its first o bytes -/
theorem row_rest {w : World} {A : Option Addr} {n : Nat} {f : Nat → Int} (h : RowAt w A n f) (o : Nat) (ho : o ≤ n) : RowAt w (A.map (fun x => ⟨x.block, x.off + o, none⟩)) (n - o) (fun c => f (o + c)) := by
  refine ⟨?_, fun i => h.2 _⟩
  by_cases h0 : n - o = 0
  · exact Or.inl h0
  · obtain ⟨b, off, e, hc⟩ := h.at (k := 0) (by omega)
    subst e
    exact Or.inr ⟨b, off + o, rfl, fun i hi => by rw [Nat.add_assoc]; exact hc (o + i) (by omega)⟩

set_option linter.unusedSimpArgs false in
set_option maxRecDepth 100000 in
set_option maxHeartbeats 8000000 in
theorem ptaken_any (s : Nat → Nat) (hs : ∀ i, s i < 4294967296) (A : Option Addr) (L ca : Nat) (f : Nat → Int) (hL : L ≤ ca) (hca : ca ≤ maxLen) (w : World) (hrow : RowAt w A L f) (hk : KAt w) :
    Calls Tryd.prog 20 #[.agg (cells8 s), .slice A L ca] w fun e w' => e = .returned (.agg (cells8 (runS s (nbD f) (L / 64)))) ∧ Bw w w' := by
  have hz8 := zero8
  have hi8 := info8
  obtain ⟨AF, hA0, hA1, hAl, hAe⟩ : ∃ AF : Nat → Nat → Nat, Hid (AF 0 = s) ∧ Hid (∀ k, AF (k + 1) = Sha.taken (AF k) (fun i => nbD f (64 * k + i))) ∧ (∀ k i, AF k i < 4294967296) ∧ Hid (AF = runS s (nbD f)) := by
    refine ⟨runS s (nbD f), ?_, ?_, runS_lt hs, ?_⟩
    · show runS s _ 0 = s
      rfl
    · show ∀ k, _ = _
      intro k
      rfl
    · show _ = _
      rfl
  go_enter Tryd.func20, Tryd.ntmps20
  go_wp2
  go_loopw [1] (fun v wr => ∃ (n : Nat) (A' : Option Addr), 64 * n ≤ L ∧ v = .slice A' (L - 64 * n) (ca - 64 * n) ∧ RowAt w A' (L - 64 * n) (fun c => f (64 * n + c)) ∧ EightAt wr w.heap.size (AF n) ∧ wr.heap[w.heap.size + 1]? = some (.cells zeros8 43 (0, 0)) ∧ Bw w wr) (fun v _ => lenOf v)
  case atStart =>
    refine ⟨0, A, by omega, rfl, ?_, by rw [hA0.out]; exact heap_alloc2_old _ _ _, heap_alloc2_new _ _ _, ((Below.refl _ _).alloc (Nat.le_refl _) _).alloc (by rw [size_alloc]; omega) _⟩
    have e : (fun c => f (64 * 0 + c)) = f := funext fun c => by rw [Nat.mul_zero, Nat.zero_add]
    rw [e]; exact hrow
  case round =>
    obtain ⟨n, A', hn, rfl, hrA, hE, hZ, hw⟩ := hrel
    obtain ⟨M, hM⟩ : ∃ M, Hid (M = L - 64 * n) := ⟨_, rfl⟩
    obtain ⟨C, hC⟩ : ∃ C, Hid (C = ca - 64 * n) := ⟨_, rfl⟩
    have hMC : M ≤ C ∧ C ≤ maxLen := by have := hM.out; have := hC.out; omega
    rw [← hM.out] at hrA ⊢
    rw [← hC.out]
    by_cases hlt : 64 ≤ M
    · obtain ⟨r, hr⟩ : ∃ r, Hid (r = AF n) := ⟨_, rfl⟩
      rw [← hr.out] at hE
      have hrl : ∀ i, r i < 4294967296 := by rw [hr.out]; exact hAl n
      have hi64 : (64 : Int) ≤ (M : Int) := by omega
      have hi64' : (M : Int) ≥ 64 := by omega
      have hrk := hrA.keep hw
      have hkk := hk.keep hw
      have hnb := nbD_lt hrA.2
      obtain ⟨b, hb⟩ : ∃ b, Hid (b = nbD (fun c => f (64 * n + c))) := ⟨_, rfl⟩
      obtain ⟨R, hR⟩ : ∃ R, Hid (R = Sha.rounds b r 64) := ⟨_, rfl⟩
      have hRl : ∀ i, R i < 4294967296 := by rw [hR.out]; exact Sha.rounds_lt hrl 64
      have hbl : ∀ i, b i < 256 := by rw [hb.out]; exact hnb
      rename World => wx
      go_wp2
      go_cut [5] from 7 to 28 (fun v wc => ∃ g5 : Nat, v = .pointer (some ⟨g5, 0, none⟩) ∧ EightAt wc g5 R ∧ wx.heap.size ≤ g5 ∧ Bw wx wc)
      case first =>
        refine wp_region_held_drew (S := fun w' => Bw wx w') (by kernel_rfl) ((Below.refl _ _).drew) (fun hHeld => ?_)
        refine wpAnyH_take (i := 0) (oi := { dst := some 12, op := Op.load 43 (Operand.tmp 2), type := 43, pos := "digest.go:122", after := #[], guard := none }) (v := .agg (cells8 r)) rfl (by kernel_rfl) (by kernel_rfl) (by kernel_rfl) (fun _ _ _ h => h) (yieldsIf_load_row (by rfl) 43 _ rfl w.heap.size rfl 43 (cells8 r) (0, 0) _ (fun w' h' => EightAt.keep hE h') Tryd.underlying43 rfl (hi8 r)) (by assumption) ?_
        try simp only [Act.put, List.setIfInBounds_toArray, List.set_cons_zero, List.set_cons_succ]
        refine wpAnyH_take (i := 1) (oi := { dst := some 13, op := Op.move (Operand.tmp 1), type := 22, pos := "digest.go:122", after := #[], guard := none }) (v := ?_) rfl (by kernel_rfl) (by kernel_rfl) (by kernel_rfl) (fun _ _ _ h => h) (Or.inl ⟨by rfl, ?_⟩) (by assumption) ?_
        rotate_left
        · intro w hSw; (try dsimp only at hSw); go_simp; all_goals (with_reducible rfl)
        try simp only [Act.put, List.setIfInBounds_toArray, List.set_cons_zero, List.set_cons_succ]
        refine wpAnyH_ready (rs := [2, 5]) (by kernel_rfl) (by simp) ?_
        refine AllReadyH.cons (o := { dst := some 14, op := Op.call { callee := Callee.value (Operand.func 28), args := #[Operand.tmp 13], argTypes := #[22] }, type := 56, pos := "digest.go:122", after := #[{ on := 1, ground := Ground.data }], guard := none }) rfl (fun K hK => ?_) ?_
        · rw [if_pos (by rfl)]
          go_simp
          refine (pwords_any _ _ _ (fun c => f (64 * n + c)) hlt hMC.1 hMC.2 _ (hrk.keep hHeld)).mono ?_
          rintro e w7 ⟨rfl, hw7⟩
          rw [← hb.out]
          refine hK.out _ _ (hHeld.trans hw7) (fun hHeld' => ?_)
          clear hK K
          try simp only [Act.put, List.setIfInBounds_toArray, List.set_cons_zero, List.set_cons_succ]
          clear hHeld
          have hHeld := hHeld'
          clear hHeld' hw7
          refine wpAnyH_ready (rs := [3, 5]) (by kernel_rfl) (by simp) ?_
          refine AllReadyH.cons (o := { dst := some 15, op := Op.call { callee := Callee.value (Operand.func 27), args := #[Operand.tmp 14], argTypes := #[56] }, type := 50, pos := "digest.go:122", after := #[{ on := 2, ground := Ground.data }, { on := 2, ground := Ground.chain }], guard := none }) rfl (fun K hK => ?_) ?_
          · rw [if_pos (by rfl)]
            go_simp
            refine (spread_any b hbl _).mono ?_
            rintro e w7 ⟨rfl, hw7⟩
            refine hK.out _ _ (hHeld.trans hw7) (fun hHeld' => ?_)
            clear hK K
            try simp only [Act.put, List.setIfInBounds_toArray, List.set_cons_zero, List.set_cons_succ]
            clear hHeld
            have hHeld := hHeld'
            clear hHeld' hw7
            refine wpAnyH_ready (rs := [4, 5]) (by kernel_rfl) (by simp) ?_
            refine AllReadyH.cons (o := { dst := some 16, op := Op.call { callee := Callee.value (Operand.func 26), args := #[Operand.tmp 12, Operand.tmp 15], argTypes := #[43, 50] }, type := 43, pos := "digest.go:122", after := #[{ on := 0, ground := Ground.data }, { on := 3, ground := Ground.data }, { on := 3, ground := Ground.chain }], guard := none }) rfl (fun K hK => ?_) ?_
            · rw [if_pos (by rfl)]
              go_simp
              refine (mixed_any b r hbl hrl _ (hkk.keep hHeld)).mono ?_
              rintro e w7 ⟨rfl, hw7⟩
              rw [← hR.out]
              refine hK.out _ _ (hHeld.trans hw7) (fun hHeld' => ?_)
              clear hK K
              try simp only [Act.put, List.setIfInBounds_toArray, List.set_cons_zero, List.set_cons_succ]
              clear hHeld
              have hHeld := hHeld'
              clear hHeld' hw7
              refine wpAnyH_ready (rs := [5]) (by kernel_rfl) (by simp) ?_
              refine AllReadyH.cons (o := { dst := some 5, op := Op.alloc 43, type := 0, pos := "digest.go:122", after := #[], guard := none }) rfl (fun K hK => ?_) AllReadyH.nil
              rw [if_pos (by rfl)]
              go_simp
              refine hK.out _ _ (Below.alloc hHeld hHeld.size _) (fun hHeld' => ?_)
              clear hK K
              try simp only [Act.put, List.setIfInBounds_toArray, List.set_cons_zero, List.set_cons_succ]
              first | have hV := fresh8 hHeld' | have hV := fresh8d hHeld'
              have hgv := hHeld.size
              clear hHeld
              have hHeld := hHeld'
              clear hHeld'
              refine wpAnyH_ready (rs := [6]) (by kernel_rfl) (by simp) ?_
              refine AllReadyH.cons (o := { dst := none, op := Op.store 43 (Operand.tmp 5) (Operand.tmp 16), type := 0, pos := "digest.go:122", after := #[{ on := 5, ground := Ground.data }, { on := 4, ground := Ground.data }, { on := 4, ground := Ground.chain }, { on := 0, ground := Ground.phase }, { on := 1, ground := Ground.phase }, { on := 2, ground := Ground.phase }, { on := 3, ground := Ground.phase }, { on := 4, ground := Ground.phase }, { on := 5, ground := Ground.phase }], guard := none }) rfl (fun K hK => ?_) AllReadyH.nil
              rw [if_pos (by rfl)]
              refine wp_store_row 43 _ _ rfl _ (cells8 R) rfl rfl 43 zeros8 hV (hi8 _) rfl (cells8_all _) ?_
              refine hK.out _ _ (setRow_bw hHeld hgv _) (fun hHeld => ?_)
              clear hK K
              try simp only [Act.put, List.setIfInBounds_toArray, List.set_cons_zero, List.set_cons_succ]
              refine wpAnyH_done (by kernel_rfl) ?_ _
              go_wp2
              go_meet
              case rel => exact ⟨_, rfl, setRow_heap _ _ _ _ _ _ hV, hgv, hHeld⟩
            refine AllReadyH.cons (o := { dst := some 5, op := Op.alloc 43, type := 0, pos := "digest.go:122", after := #[], guard := none }) rfl (fun K hK => ?_) AllReadyH.nil
            rw [if_pos (by rfl)]
            go_simp
            refine hK.out _ _ (Below.alloc hHeld hHeld.size _) (fun hHeld' => ?_)
            clear hK K
            try simp only [Act.put, List.setIfInBounds_toArray, List.set_cons_zero, List.set_cons_succ]
            first | have hV := fresh8 hHeld' | have hV := fresh8d hHeld'
            have hgv := hHeld.size
            clear hHeld
            have hHeld := hHeld'
            clear hHeld'
            refine wpAnyH_ready (rs := [4]) (by kernel_rfl) (by simp) ?_
            refine AllReadyH.cons (o := { dst := some 16, op := Op.call { callee := Callee.value (Operand.func 26), args := #[Operand.tmp 12, Operand.tmp 15], argTypes := #[43, 50] }, type := 43, pos := "digest.go:122", after := #[{ on := 0, ground := Ground.data }, { on := 3, ground := Ground.data }, { on := 3, ground := Ground.chain }], guard := none }) rfl (fun K hK => ?_) AllReadyH.nil
            rw [if_pos (by rfl)]
            go_simp
            refine (mixed_any b r hbl hrl _ (hkk.keep hHeld)).mono ?_
            rintro e w7 ⟨rfl, hw7⟩
            rw [← hR.out]
            refine hK.out _ _ (hHeld.trans hw7) (fun hHeld' => ?_)
            clear hK K
            try simp only [Act.put, List.setIfInBounds_toArray, List.set_cons_zero, List.set_cons_succ]
            have hV' := (hw7.block _ (Array.getElem?_eq_some_iff.1 hV).1).trans hV
            clear hV
            have hV := hV'
            clear hV'
            clear hHeld
            have hHeld := hHeld'
            clear hHeld' hw7
            refine wpAnyH_ready (rs := [6]) (by kernel_rfl) (by simp) ?_
            refine AllReadyH.cons (o := { dst := none, op := Op.store 43 (Operand.tmp 5) (Operand.tmp 16), type := 0, pos := "digest.go:122", after := #[{ on := 5, ground := Ground.data }, { on := 4, ground := Ground.data }, { on := 4, ground := Ground.chain }, { on := 0, ground := Ground.phase }, { on := 1, ground := Ground.phase }, { on := 2, ground := Ground.phase }, { on := 3, ground := Ground.phase }, { on := 4, ground := Ground.phase }, { on := 5, ground := Ground.phase }], guard := none }) rfl (fun K hK => ?_) AllReadyH.nil
            rw [if_pos (by rfl)]
            refine wp_store_row 43 _ _ rfl _ (cells8 R) rfl rfl 43 zeros8 hV (hi8 _) rfl (cells8_all _) ?_
            refine hK.out _ _ (setRow_bw hHeld hgv _) (fun hHeld => ?_)
            clear hK K
            try simp only [Act.put, List.setIfInBounds_toArray, List.set_cons_zero, List.set_cons_succ]
            refine wpAnyH_done (by kernel_rfl) ?_ _
            go_wp2
            go_meet
            case rel => exact ⟨_, rfl, setRow_heap _ _ _ _ _ _ hV, hgv, hHeld⟩
          refine AllReadyH.cons (o := { dst := some 5, op := Op.alloc 43, type := 0, pos := "digest.go:122", after := #[], guard := none }) rfl (fun K hK => ?_) AllReadyH.nil
          rw [if_pos (by rfl)]
          go_simp
          refine hK.out _ _ (Below.alloc hHeld hHeld.size _) (fun hHeld' => ?_)
          clear hK K
          try simp only [Act.put, List.setIfInBounds_toArray, List.set_cons_zero, List.set_cons_succ]
          first | have hV := fresh8 hHeld' | have hV := fresh8d hHeld'
          have hgv := hHeld.size
          clear hHeld
          have hHeld := hHeld'
          clear hHeld'
          refine wpAnyH_ready (rs := [3]) (by kernel_rfl) (by simp) ?_
          refine AllReadyH.cons (o := { dst := some 15, op := Op.call { callee := Callee.value (Operand.func 27), args := #[Operand.tmp 14], argTypes := #[56] }, type := 50, pos := "digest.go:122", after := #[{ on := 2, ground := Ground.data }, { on := 2, ground := Ground.chain }], guard := none }) rfl (fun K hK => ?_) AllReadyH.nil
          rw [if_pos (by rfl)]
          go_simp
          refine (spread_any b hbl _).mono ?_
          rintro e w7 ⟨rfl, hw7⟩
          refine hK.out _ _ (hHeld.trans hw7) (fun hHeld' => ?_)
          clear hK K
          try simp only [Act.put, List.setIfInBounds_toArray, List.set_cons_zero, List.set_cons_succ]
          have hV' := (hw7.block _ (Array.getElem?_eq_some_iff.1 hV).1).trans hV
          clear hV
          have hV := hV'
          clear hV'
          clear hHeld
          have hHeld := hHeld'
          clear hHeld' hw7
          refine wpAnyH_ready (rs := [4]) (by kernel_rfl) (by simp) ?_
          refine AllReadyH.cons (o := { dst := some 16, op := Op.call { callee := Callee.value (Operand.func 26), args := #[Operand.tmp 12, Operand.tmp 15], argTypes := #[43, 50] }, type := 43, pos := "digest.go:122", after := #[{ on := 0, ground := Ground.data }, { on := 3, ground := Ground.data }, { on := 3, ground := Ground.chain }], guard := none }) rfl (fun K hK => ?_) AllReadyH.nil
          rw [if_pos (by rfl)]
          go_simp
          refine (mixed_any b r hbl hrl _ (hkk.keep hHeld)).mono ?_
          rintro e w7 ⟨rfl, hw7⟩
          rw [← hR.out]
          refine hK.out _ _ (hHeld.trans hw7) (fun hHeld' => ?_)
          clear hK K
          try simp only [Act.put, List.setIfInBounds_toArray, List.set_cons_zero, List.set_cons_succ]
          have hV' := (hw7.block _ (Array.getElem?_eq_some_iff.1 hV).1).trans hV
          clear hV
          have hV := hV'
          clear hV'
          clear hHeld
          have hHeld := hHeld'
          clear hHeld' hw7
          refine wpAnyH_ready (rs := [6]) (by kernel_rfl) (by simp) ?_
          refine AllReadyH.cons (o := { dst := none, op := Op.store 43 (Operand.tmp 5) (Operand.tmp 16), type := 0, pos := "digest.go:122", after := #[{ on := 5, ground := Ground.data }, { on := 4, ground := Ground.data }, { on := 4, ground := Ground.chain }, { on := 0, ground := Ground.phase }, { on := 1, ground := Ground.phase }, { on := 2, ground := Ground.phase }, { on := 3, ground := Ground.phase }, { on := 4, ground := Ground.phase }, { on := 5, ground := Ground.phase }], guard := none }) rfl (fun K hK => ?_) AllReadyH.nil
          rw [if_pos (by rfl)]
          refine wp_store_row 43 _ _ rfl _ (cells8 R) rfl rfl 43 zeros8 hV (hi8 _) rfl (cells8_all _) ?_
          refine hK.out _ _ (setRow_bw hHeld hgv _) (fun hHeld => ?_)
          clear hK K
          try simp only [Act.put, List.setIfInBounds_toArray, List.set_cons_zero, List.set_cons_succ]
          refine wpAnyH_done (by kernel_rfl) ?_ _
          go_wp2
          go_meet
          case rel => exact ⟨_, rfl, setRow_heap _ _ _ _ _ _ hV, hgv, hHeld⟩
        refine AllReadyH.cons (o := { dst := some 5, op := Op.alloc 43, type := 0, pos := "digest.go:122", after := #[], guard := none }) rfl (fun K hK => ?_) AllReadyH.nil
        rw [if_pos (by rfl)]
        go_simp
        refine hK.out _ _ (Below.alloc hHeld hHeld.size _) (fun hHeld' => ?_)
        clear hK K
        try simp only [Act.put, List.setIfInBounds_toArray, List.set_cons_zero, List.set_cons_succ]
        first | have hV := fresh8 hHeld' | have hV := fresh8d hHeld'
        have hgv := hHeld.size
        clear hHeld
        have hHeld := hHeld'
        clear hHeld'
        refine wpAnyH_ready (rs := [2]) (by kernel_rfl) (by simp) ?_
        refine AllReadyH.cons (o := { dst := some 14, op := Op.call { callee := Callee.value (Operand.func 28), args := #[Operand.tmp 13], argTypes := #[22] }, type := 56, pos := "digest.go:122", after := #[{ on := 1, ground := Ground.data }], guard := none }) rfl (fun K hK => ?_) AllReadyH.nil
        rw [if_pos (by rfl)]
        go_simp
        refine (pwords_any _ _ _ (fun c => f (64 * n + c)) hlt hMC.1 hMC.2 _ (hrk.keep hHeld)).mono ?_
        rintro e w7 ⟨rfl, hw7⟩
        rw [← hb.out]
        refine hK.out _ _ (hHeld.trans hw7) (fun hHeld' => ?_)
        clear hK K
        try simp only [Act.put, List.setIfInBounds_toArray, List.set_cons_zero, List.set_cons_succ]
        have hV' := (hw7.block _ (Array.getElem?_eq_some_iff.1 hV).1).trans hV
        clear hV
        have hV := hV'
        clear hV'
        clear hHeld
        have hHeld := hHeld'
        clear hHeld' hw7
        refine wpAnyH_ready (rs := [3]) (by kernel_rfl) (by simp) ?_
        refine AllReadyH.cons (o := { dst := some 15, op := Op.call { callee := Callee.value (Operand.func 27), args := #[Operand.tmp 14], argTypes := #[56] }, type := 50, pos := "digest.go:122", after := #[{ on := 2, ground := Ground.data }, { on := 2, ground := Ground.chain }], guard := none }) rfl (fun K hK => ?_) AllReadyH.nil
        rw [if_pos (by rfl)]
        go_simp
        refine (spread_any b hbl _).mono ?_
        rintro e w7 ⟨rfl, hw7⟩
        refine hK.out _ _ (hHeld.trans hw7) (fun hHeld' => ?_)
        clear hK K
        try simp only [Act.put, List.setIfInBounds_toArray, List.set_cons_zero, List.set_cons_succ]
        have hV' := (hw7.block _ (Array.getElem?_eq_some_iff.1 hV).1).trans hV
        clear hV
        have hV := hV'
        clear hV'
        clear hHeld
        have hHeld := hHeld'
        clear hHeld' hw7
        refine wpAnyH_ready (rs := [4]) (by kernel_rfl) (by simp) ?_
        refine AllReadyH.cons (o := { dst := some 16, op := Op.call { callee := Callee.value (Operand.func 26), args := #[Operand.tmp 12, Operand.tmp 15], argTypes := #[43, 50] }, type := 43, pos := "digest.go:122", after := #[{ on := 0, ground := Ground.data }, { on := 3, ground := Ground.data }, { on := 3, ground := Ground.chain }], guard := none }) rfl (fun K hK => ?_) AllReadyH.nil
        rw [if_pos (by rfl)]
        go_simp
        refine (mixed_any b r hbl hrl _ (hkk.keep hHeld)).mono ?_
        rintro e w7 ⟨rfl, hw7⟩
        rw [← hR.out]
        refine hK.out _ _ (hHeld.trans hw7) (fun hHeld' => ?_)
        clear hK K
        try simp only [Act.put, List.setIfInBounds_toArray, List.set_cons_zero, List.set_cons_succ]
        have hV' := (hw7.block _ (Array.getElem?_eq_some_iff.1 hV).1).trans hV
        clear hV
        have hV := hV'
        clear hV'
        clear hHeld
        have hHeld := hHeld'
        clear hHeld' hw7
        refine wpAnyH_ready (rs := [6]) (by kernel_rfl) (by simp) ?_
        refine AllReadyH.cons (o := { dst := none, op := Op.store 43 (Operand.tmp 5) (Operand.tmp 16), type := 0, pos := "digest.go:122", after := #[{ on := 5, ground := Ground.data }, { on := 4, ground := Ground.data }, { on := 4, ground := Ground.chain }, { on := 0, ground := Ground.phase }, { on := 1, ground := Ground.phase }, { on := 2, ground := Ground.phase }, { on := 3, ground := Ground.phase }, { on := 4, ground := Ground.phase }, { on := 5, ground := Ground.phase }], guard := none }) rfl (fun K hK => ?_) AllReadyH.nil
        rw [if_pos (by rfl)]
        refine wp_store_row 43 _ _ rfl _ (cells8 R) rfl rfl 43 zeros8 hV (hi8 _) rfl (cells8_all _) ?_
        refine hK.out _ _ (setRow_bw hHeld hgv _) (fun hHeld => ?_)
        clear hK K
        try simp only [Act.put, List.setIfInBounds_toArray, List.set_cons_zero, List.set_cons_succ]
        refine wpAnyH_done (by kernel_rfl) ?_ _
        go_wp2
        go_meet
        case rel => exact ⟨_, rfl, setRow_heap _ _ _ _ _ _ hV, hgv, hHeld⟩
      case rest =>
        obtain ⟨g5, rfl, hR5, hg5, hwc⟩ := hcut
        have hEc := hE.keep hwc
        have hZc : wc.heap[w.heap.size + 1]? = some (.cells zeros8 43 (0, 0)) := (hwc.block _ (Array.getElem?_eq_some_iff.1 hZ).1).trans hZ
        have hbc := hw.trans hwc
        have hEl := (Array.getElem?_eq_some_iff.1 hE).1
        have hZl := (Array.getElem?_eq_some_iff.1 hZ).1
        clear hE hZ hwc hrk hkk
        rename World => wy
        go_wp2
        go_loopw [17] (fun i wr => ∃ k : Nat, k ≤ 8 ∧ i = .int .i64 k ∧ EightAt wr w.heap.size (sumTo r R k) ∧ EightAt wr g5 R ∧ wr.heap[w.heap.size + 1]? = some (.cells zeros8 43 (0, 0)) ∧ Bw w wr) (fun i _ => 8 - (intOf i).toNat)
        case atStart => exact ⟨0, Nat.zero_le _, rfl, hEc, hR5, hZc, hbc⟩
        case round =>
          obtain ⟨k, hk8, rfl, hB, hEr, hZr, hbw⟩ := hrel
          by_cases hlt8 : k < 8
          · obtain ⟨c0, f0⟩ := hB.cell k hlt8
            have c1 := (hEr.cell k hlt8).1
            have e0 : sumTo r R k k = r k := by unfold sumTo; rw [if_neg (by omega)]
            rw [e0] at c0
            have hsk := hrl k
            have hRk := hRl k
            have k0 : (0 : Int) ≤ (k : Int) := Int.natCast_nonneg _
            have k1 : (k : Int) < 8 := by omega
            have e1 := add_val (r k) (R k)
            have e2 := e1
            rw [IntKind.wrap_u32'] at e2
            have hne : ¬ w.heap.size = g5 := by omega
            go_wp2
            go_region
            go_wp2
            go_roundw
            case rel =>
              refine ⟨k + 1, by omega, by go_num, hB.set hlt8 (by unfold sumTo; rw [if_pos (by omega)]) (fun i _ hi => ?_), (heap_setCell_other _ _ _ _ (by simp only; omega)).trans hEr, (heap_setCell_other _ _ _ _ (by simp only; omega)).trans hZr, (Bw.put hbw (Nat.le_refl _) _ _).drew⟩
              unfold sumTo
              by_cases e : i < k
              · rw [if_pos e, if_pos (by omega)]
              · rw [if_neg e, if_neg (by omega)]
            case measure => simp [intOf]; omega
          · have e8 : k = 8 := by omega
            subst e8
            have hB' : EightAt wr w.heap.size (AF (n + 1)) := by
              unfold EightAt at hB ⊢
              rw [hB]
              refine congrArg some (congrArg (fun c => Obj.cells c _ (0, 0)) (cells8_congr (fun i hi => ?_)))
              rw [hA1.out, ← hr.out]
              unfold sumTo Sha.taken
              rw [if_pos hi, hR.out, hb.out]; rfl
            have m0 : M - 64 = L - 64 * (n + 1) := by have := hM.out; omega
            have m1 : C - 64 = ca - 64 * (n + 1) := by have := hC.out; omega
            have hrN := row_rest hrA 64 hlt
            have hfe : (fun c => f (64 * n + (64 + c))) = fun c => f (64 * (n + 1) + c) := funext fun c => by rw [show 64 * n + (64 + c) = 64 * (n + 1) + c by omega]
            rw [hfe, m0] at hrN
            have c1 : (64 : Int) ≤ (C : Int) := by omega
            by_cases hC64 : C = 64
            · go_wp2
              go_roundw
              case rel => exact ⟨n + 1, A', by have := hM.out; omega, by rw [← m0, ← m1]; simp [hC64], (by rw [← m0, show M - 64 = 0 by omega]; exact ⟨Or.inl rfl, fun i => hrow.2 _⟩), hB', hZr, hbw⟩
              case measure => simp [lenOf]; omega
            · go_wp2
              go_roundw
              case rel => exact ⟨n + 1, _, by have := hM.out; omega, by rw [← m0, ← m1], hrN, hB', hZr, hbw⟩
              case measure => simp [lenOf]; omega
    · have hnL : L / 64 = n := by have := hM.out; omega
      obtain ⟨r, hr⟩ : ∃ r, Hid (r = AF n) := ⟨_, rfl⟩
      rw [← hr.out] at hE
      unfold EightAt at hE
      have hi64 : ¬ (64 : Int) ≤ (M : Int) := by omega
      have hi64' : ¬ (M : Int) ≥ 64 := by omega
      clear hA0 hA1 hAl
      go_wp2_with (first
        | refine wpList_load_row rfl 43 _ rfl w.heap.size rfl 43 (cells8 r) (0, 0) _ hE Tryd.underlying43 rfl (hi8 r) ?_
        | refine wpList_store_row rfl 43 _ _ rfl (w.heap.size + 1) (cells8 r) rfl rfl 43 zeros8 hZ (hi8 r) rfl (cells8_all r) ?_)
      exact bodyPost_ret (results_cell_row Tryd.results20 _ _ (w.heap.size + 1) 43 (cells8 r) (0, 0) _ rfl (setRow_heap wr (w.heap.size + 1) _ _ _ _ hZ) Tryd.underlying43 rfl (hi8 r)) rfl ⟨by rw [hr.out, hAe.out], setRow_bw hw (by omega) _⟩
end Go.Proofs.YtcpapaceggnaoaaDoor

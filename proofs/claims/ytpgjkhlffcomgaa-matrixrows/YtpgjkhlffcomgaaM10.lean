/- What the document's own Mul of two matrices makes. -/
import Derived.Test.YtpgjkhlffcomgaaM9
import Derived.Deep.RegionWith
import Derived.BigRegion
import Derived.Deep.DrawnRows
namespace Go.Proofs.Ytpgjkhlffcomgaa
open Go.RowKit

attribute [local go_sem ↓] Go.wp_at_zero Go.wp_at_succ

/-- the product's numbers -/
def prodZ (m : Nat) (Z Y : Nat → Nat → Int) (i j : Nat) : Int := dotU (Z i) (fun t => Y t j) m
/-- a row of the product under way: j numbers are there, t terms of the next one -/
def wayZ (m : Nat) (Z Y : Nat → Nat → Int) (i j t c : Nat) : Int := if c < j then prodZ m Z Y i c else if c = j then dotU (Z i) (fun t => Y t j) t else 0

theorem wayZ_at (m : Nat) (Z Y : Nat → Nat → Int) (k j t : Nat) (hZ : ∀ i, 0 ≤ Z k i ∧ Z k i < 256) : 0 ≤ wayZ m Z Y k j t j ∧ wayZ m Z Y k j t j < 256 ∧ addI (wayZ m Z Y k j t j) (mulI (Z k t) (Y t j)) = wayZ m Z Y k j (t + 1) j := by
  have e : ∀ s, wayZ m Z Y k j s j = dotU (Z k) (fun t => Y t j) s := fun s => by unfold wayZ; rw [if_neg (by omega), if_pos rfl]
  have b := dotU_bd (Z k) (fun t => Y t j) hZ t
  rw [e, e]
  exact ⟨b.1, b.2, rfl⟩

theorem wayZ_ne (m : Nat) (Z Y : Nat → Nat → Int) (k j t s c : Nat) (h : c ≠ j) : wayZ m Z Y k j s c = wayZ m Z Y k j t c := by
  unfold wayZ; rw [if_neg h, if_neg h]
theorem wayZ_next (m : Nat) (Z Y : Nat → Nat → Int) (k j c : Nat) : wayZ m Z Y k (j + 1) 0 c = wayZ m Z Y k j m c := by
  unfold wayZ
  by_cases h1 : c < j
  · rw [if_pos h1, if_pos (by omega)]
  · by_cases h2 : c = j
    · subst h2; rw [if_pos (by omega), if_neg (by omega), if_pos rfl]; rfl
    · rw [if_neg (by omega), if_neg h1, if_neg h2]; split <;> rfl
theorem wayZ_end (m : Nat) (Z Y : Nat → Nat → Int) (k q c : Nat) (h : c < q) : wayZ m Z Y k q 0 c = prodZ m Z Y k c := by
  unfold wayZ; rw [if_pos h]

/-- a row of bytes that fills a block -/
def BlockIs (w : World) (g q : Nat) (f : Nat → Int) : Prop := ∃ cur, w.heap[g]? = some (.cells cur 5 (0, 0)) ∧ cur.size = q ∧ ∀ c, c < q → cur[c]? = some (.int .u8 (f c))

theorem BlockIs.keep {w w' : World} {g q : Nat} {f : Nat → Int} (h : BlockIs w g q f) (b : Bw w w') : BlockIs w' g q f := by
  obtain ⟨cur, h1, h2⟩ := h
  exact ⟨cur, by rw [b.block g (Array.getElem?_eq_some_iff.1 h1).1, h1], h2⟩

theorem BlockIs.cell {w : World} {g q : Nat} {f : Nat → Int} (h : BlockIs w g q f) {c : Nat} (hc : c < q) : w.cell? ⟨g, c, none⟩ = some (.int .u8 (f c)) ∧ w.frozen? ⟨g, c, none⟩ = false := by
  obtain ⟨cur, h1, h2, h3⟩ := h
  exact ⟨(cell_of_row w g c cur _ _ h1).trans (h3 c hc), frozen_of_row w g c cur _ h1⟩

theorem BlockIs.set {w : World} {g q : Nat} {f f' : Nat → Int} (h : BlockIs w g q f) {j : Nat} {x : Int} (hj : j < q) (e : f' j = x) (hf : ∀ c, c < q → c ≠ j → f' c = f c) : BlockIs (w.setCell ⟨g, j, none⟩ (.int .u8 x)) g q f' := by
  obtain ⟨cur, h1, h2, h3⟩ := h
  refine ⟨_, heap_setCell_same w g j cur _ _ h1, by simpa using h2, fun c hc => ?_⟩
  by_cases hcj : c = j
  · subst hcj; rw [Array.getElem?_setIfInBounds_self_of_lt (by omega), e]
  · rw [Array.getElem?_setIfInBounds_ne (Ne.symm hcj), h3 c hc, hf c hc hcj]

theorem BlockIs.congr {w : World} {g q : Nat} {f f' : Nat → Int} (h : BlockIs w g q f) (hf : ∀ c, c < q → f' c = f c) : BlockIs w g q f' := by
  obtain ⟨cur, h1, h2, h3⟩ := h
  exact ⟨cur, h1, h2, fun c hc => by rw [h3 c hc, hf c hc]⟩

theorem BlockIs.row {w : World} {g q : Nat} {f : Nat → Int} (h : BlockIs w g q f) (hf : ∀ i, 0 ≤ f i ∧ f i < 256) : RowAt w (some ⟨g, 0, none⟩) q f :=
  ⟨Or.inr ⟨g, 0, rfl, fun i hi => by rw [Nat.zero_add]; exact (h.cell hi).1⟩, hf⟩

theorem Bw.put {w w' : World} (h : Bw w w') {g : Nat} (hg : w.heap.size ≤ g) (j : Nat) (v : Value) : Bw w (w'.setCell ⟨g, j, none⟩ v) := Below.setCell h hg v

set_option maxRecDepth 100000 in
set_option maxHeartbeats 4000000 in
theorem rmm_ok (A B : Option Addr) (n m q ca cb : Nat) (R S : Nat → Option Addr) (L C M D : Nat → Nat) (Z Y : Nat → Nat → Int) (w : World) (ha : MatAt w A n R L C Z) (hb : MatAt w B m S M D Y)
    (hx : Wrong n L 0) (hy : Wrong m M 0) (hn : n ≤ 32) (hm : m ≤ 32) (hq : q ≤ 131072) (hcA : colsI n L = (m : Int)) (hcB : colsI m M = (q : Int)) (hLm : Hid (∀ r, r < n → L r = m)) (hMq : Hid (∀ r, r < m → M r = q)) :
    Calls Try.prog 19 #[.slice A n ca, .slice B m cb] w fun e w' => ∃ v R' C', e = .returned (.tuple #[v, .int .i64 0]) ∧ OwnMat w' w.heap.size v n R' (fun _ => q) C' (prodZ m Z Y) ∧ Bw w w' := by
  obtain ⟨j0, hj0, hy0, hy1, hy2⟩ := info_parts info_row
  obtain ⟨M0, hM, hM0, hmk⟩ := made_bytes q (by omega)
  have HM : Hid (∀ i, i < q → M0[i]? = some (.int .u8 0)) := hM0
  clear hM0
  go_enter Try.func19, Try.ntmps19
  go_wp2_with (first | (go_at_call_of 37 (Value.slice A n ca); refine (rbad_any _ _ _ _ _ _ _ _ ha).mono ?_; rintro e w1 ⟨y, rfl, hy', hw⟩; obtain rfl := Wrong.unique hy' hx; have ha1 := ha.keep hw; have hb1 := hb.keep hw) | (go_at_call_of 37 (Value.slice B m cb); refine (rbad_any _ _ _ _ _ _ _ _ hb1).mono ?_; rintro e w2 ⟨y, rfl, hy', hw2⟩; obtain rfl := Wrong.unique hy' hy; have ha2 := ha1.keep hw2) | (go_at_call 28; refine (rcols_any _ _ _ _ _ _ _ _ ha2).mono ?_; rintro e w' ⟨rfl, hw'⟩; subst w'))
  go_loopw [7, 8] (fun v i wr => ∃ (k : Nat) (R' : Nat → Option Addr) (L' C' : Nat → Nat) (Z' : Nat → Nat → Int), k ≤ n ∧ i = .int .i64 k ∧ OwnMat wr w.heap.size v k R' L' C' Z' ∧ Hid (∀ r, r < k → L' r = q ∧ Z' r = prodZ m Z Y r) ∧ Bw w wr) (fun _ i _ => n - (intOf i).toNat)
  case atStart => exact ⟨0, fun _ => none, fun _ => 0, fun _ => 0, Z, Nat.zero_le _, rfl, OwnMat.nil _ _ _ _ _ _, (fun r hr => by omega), hw.trans hw2⟩
  case round =>
    rename World => wo
    obtain ⟨k, R', L', C', Z', hk, rfl, hmat, hsame, hwr⟩ := hrel
    have hao := ha.keep hwr
    have hbo := hb.keep hwr
    by_cases hlt : k < n
    · have hsz := hwr.size
      have hmx2 : k + 1 ≤ maxLen := by unfold maxLen; omega
      have hZk := (ha.2 k hlt).2
      have hblk : BlockIs (wo.alloc (.cells M0 5)) wo.heap.size q (wayZ m Z Y k 0 0) := ⟨M0, heap_alloc_new _ _, hM, fun c hc => by rw [HM.out c hc]; unfold wayZ; rw [if_neg (by omega)]; split <;> rfl⟩
      have hbw0 : Bw wo (wo.alloc (.cells M0 5)) := (Below.refl _ _).alloc (Nat.le_refl _) _
      go_wp2_with (go_at_call 28; refine (rcols_any _ _ _ _ _ _ _ _ hbo).mono ?_; rintro e w' ⟨rfl, hw'⟩; subst w')
      go_loopw [10, 11] (fun i _ wr => ∃ j : Nat, j ≤ q ∧ i = .int .i64 j ∧ BlockIs wr wo.heap.size q (wayZ m Z Y k j 0) ∧ Bw wo wr) (fun i _ _ => q - (intOf i).toNat)
      case atStart => exact ⟨0, Nat.zero_le _, rfl, hblk, hbw0⟩
      case round =>
        rename World => wp
        obtain ⟨j, hj, rfl, hbj, hwp⟩ := hrel
        by_cases hjq : j < q
        · go_wp2
          go_loopw [11] (fun i wr => ∃ t : Nat, t ≤ m ∧ i = .int .i64 t ∧ BlockIs wr wo.heap.size q (wayZ m Z Y k j t) ∧ Bw wo wr) (fun i _ => m - (intOf i).toNat)
          case atStart => exact ⟨0, Nat.zero_le _, rfl, hbj, hwp⟩
          case round =>
            obtain ⟨t, ht, rfl, hbt, hwt⟩ := hrel
            by_cases htm : t < m
            · have hLk := hLm.out k hlt
              have hMt := hMq.out t htm
              obtain ⟨b1, o1, rfl, hc1⟩ := (hao.keep hwt).at hlt
              obtain ⟨b2, o2, e2, hc2⟩ := ((hao.keep hwt).2 k hlt).at (k := t) (by omega)
              obtain ⟨b3, o3, rfl, hc3⟩ := (hbo.keep hwt).at htm
              obtain ⟨b4, o4, e4, hc4⟩ := ((hbo.keep hwt).2 t htm).at (k := j) (by omega)
              have h1 := hc1 k hlt
              have h2 := hc2 t (by omega)
              have h3 := hc3 t htm
              have h4 := hc4 j (by omega)
              have hcell := hbt.cell hjq
              have hx5 := hcell.1
              have hf5 := hcell.2
              have z1 := hZk t
              have y1 := (hb.2 t htm).2 j
              have l1 : b1 < wo.heap.size := (hao.at hlt).elim fun b h => by obtain ⟨o, e, hc⟩ := h; cases e; exact block_lt_of_cell (hc k hlt)
              have l3 : b3 < wo.heap.size := (hbo.at htm).elim fun b h => by obtain ⟨o, e, hc⟩ := h; cases e; exact block_lt_of_cell (hc t htm)
              have l2 : b2 < wo.heap.size := RowAt.lt (e2 ▸ hao.2 k hlt) (k := t) (by omega)
              have l4 : b4 < wo.heap.size := RowAt.lt (e4 ▸ hbo.2 t htm) (k := j) (by omega)
              rw [e2, hLk] at h1
              rw [e4, hMt] at h3
              have d1 := wayZ_at m Z Y k j t hZk
              have m1 := mulI_bd (Z k t) (Y t j) z1.2
              have r1 : bits .xor .u8 (wayZ m Z Y k j t j) (mulI (Z k t) (Y t j)) = wayZ m Z Y k j (t + 1) j := (u8_xor _ _ d1.1 d1.2.1 m1.1 m1.2).trans d1.2.2
              have ik : (k : Int) < (n : Int) := by omega
              have it : (t : Int) < (m : Int) := by omega
              have ij : (j : Int) < (q : Int) := by omega
              have ik0 : (0 : Int) ≤ (k : Int) := Int.natCast_nonneg _
              have it0 : (0 : Int) ≤ (t : Int) := Int.natCast_nonneg _
              have ij0 : (0 : Int) ≤ (j : Int) := Int.natCast_nonneg _
              clear hc1 hc2 hc3 hc4 hcell hLk hMt d1 e2 e4
              go_wp2
              go_region_with (first | (go_at_call 34; refine (rmul_any _ _ (by omega) (by omega) (by omega) (by omega) _).mono ?_; rintro e w' ⟨rfl, hw'⟩; subst w'))
              all_goals
                go_wp2
                go_roundw
                case rel => exact ⟨t + 1, by omega, by go_num, BlockIs.set hbt hjq rfl (fun c _ hne => wayZ_ne m Z Y k j t (t + 1) c hne), (Bw.put hwt (Nat.le_refl _) j _).drew⟩
                case measure => simp [intOf]; omega
            · have ek : m = t := by omega
              subst ek
              go_wp2
              go_roundw
              case rel => exact ⟨j + 1, by omega, by go_num, hbt.congr (fun c _ => wayZ_next m Z Y k j c), hwt⟩
              case measure => simp [intOf]; omega
        · have ek : q = j := by omega
          subst ek
          have hrow1 : RowAt wp (some ⟨wo.heap.size, 0, none⟩) q (prodZ m Z Y k) := (hbj.congr (f' := prodZ m Z Y k) (fun c hc => (wayZ_end m Z Y k q c hc).symm)).row (fun i => dotU_bd _ _ hZk m)
          have hgl : wo.heap.size < wp.heap.size := by obtain ⟨cur, hcur, _⟩ := hbj; exact (Array.getElem?_eq_some_iff.1 hcur).1
          have hps := hwp.size
          go_wp2_with (at_builtin; refine wpList_append_lies _ (by rfl) (.tmp 74) (.tmp 76) _ (by rfl) w.heap.size 22 j0 _ 1 24 Try.underlying30 hj0 hy0 hy1 hy2 rfl (by omega) _ _ _ (by rfl) ((own_keep hmat.own hwp).alloc _) ⟨wp.heap.size, 0, none⟩ 1 1 [.slice (some ⟨wo.heap.size, 0, none⟩) q q] (by rfl) (by rfl) (World.news_of_block (cs := #[.slice (some ⟨wo.heap.size, 0, none⟩) q q]) (t := 22) (fr := (0, 0)) (heap_alloc_new wp _)) (by simp [Value.oneCell']) (by omega) hmx2 (by omega) (by simp; omega) (wp.heap.size + 1) (by simp) ?_; intro gg c2 w3 hown2 hgrow2 hat hlt')
          have hp := OwnMat.push hmat hwp hsz hrow1 ⟨Nat.le_refl _, by unfold maxLen; omega⟩ (fun a ha => by cases ha; exact ⟨Nat.le_refl _, hgl⟩) hgrow2 hat hown2
          go_roundw
          case rel => exact ⟨k + 1, _, _, _, _, by omega, by go_num, hp.1, same_upd (L := fun _ => q) (Z := prodZ m Z Y) hsame, hwr.trans' hp.2⟩
          case measure => simp [intOf]; omega
    · have ek : n = k := by omega
      subst ek
      go_wp2
      go_ret2
      exact ⟨_, _, _, rfl, hmat.congr hsame, hwr⟩

end Go.Proofs.Ytpgjkhlffcomgaa

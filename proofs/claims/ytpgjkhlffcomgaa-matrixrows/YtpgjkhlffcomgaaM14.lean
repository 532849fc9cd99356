/- What the document's own Inverse makes. -/
import Derived.Test.YtpgjkhlffcomgaaM13
import Derived.Test.YtpgjkhlffcomgaaM10
import Derived.Deep.Slices
namespace Go.Proofs.Ytpgjkhlffcomgaa
open Go.RowKit

/-- what is told of a matrix that is to be taken back -/
def InvSays (n : Nat) (Z : Nat → Nat → Int) (e : Ending) (w' : World) : Prop :=
  (e = .returned (.tuple #[.slice none 0 0, .int .i64 20]) ∧ ¬ ∃ B, ∀ i j, i < n → j < n → La.mm n (fm Z) B i j = La.one i j) ∨
  ∃ A' cap' R' C' Y, e = .returned (.tuple #[.slice A' n cap', .int .i64 0]) ∧ MatAt w' A' n R' (fun _ => n) C' Y ∧ ∀ i j, i < n → j < n → La.mm n (fm Z) (fm Y) i j = La.one i j

theorem rank_congr {n m : Nat} {A B : Nat → Nat → La.F8} {r : Nat} (h : La.IsRank n m A r) (e : ∀ i j, i < n → j < m → B i j = A i j) : La.IsRank n m B r := by
  obtain ⟨P, Q, U, V, h1, h2⟩ := h
  refine ⟨P, Q, U, V, fun i j hi hj => by rw [e i j hi hj, h1 i j hi hj], fun i j hi hj => ?_⟩
  rw [← h2 i j hi hj]
  exact La.mm_congr (fun t ht => La.mm_congr (fun _ _ => rfl) (fun s hs => e s t hs ht)) (fun _ _ => rfl)

/-- a row and another one behind it -/
def wideZ (n : Nat) (Z Y : Nat → Nat → Int) (i c : Nat) : Int := if c < n then Z i c else Y i (c - n)

theorem cellsU_append (f g : Nat → Int) (n k : Nat) : cellsU f n ++ cellsU g k = cellsU (fun c => if c < n then f c else g (c - n)) (n + k) := by
  induction k with
  | zero =>
    show cellsU f n ++ [] = cellsU _ (n + 0)
    rw [List.append_nil, Nat.add_zero]
    exact List.map_congr_left fun i hi => by dsimp only; rw [if_pos (List.mem_range.1 hi)]
  | succ k ih =>
    rw [cellsU_succ, ← List.append_assoc, ih, Nat.add_succ, cellsU_succ]
    rw [if_neg (by omega), show n + k - n = k by omega]

theorem rowat_news {w : World} {b o L : Nat} {f : Nat → Int} (h : RowAt w (some ⟨b, o, none⟩) L f) : ∀ j u, (cellsU f L)[j]? = some u → w.cell? ((⟨b, o, none⟩ : Addr).add j) = some u := by
  intro j u hu
  obtain ⟨hj, rfl⟩ := cellsU_get f L j u hu
  obtain ⟨b', o', e, hc⟩ := h.at hj
  cases e
  rw [Addr.add_lit]; exact hc j hj

theorem grown_drew {X y : World} {r : Option Nat} (h : X.drew.grownBy y r) : X.grownBy y r := ⟨h.os, h.tape, h.output, h.size, h.block⟩

/-- a row of the call's own, appended to: what lay below its base stays -/
theorem bw_grow {W X y : World} {base : Nat} {e : TypeId} {size n : Nat} {v : Value} {xs : List Value} (h : X.grownBy y v.ownBlock) (b : Below base W X) (hX : base ≤ X.heap.size) (hown : X.ownsRow base e size v n xs) : Below base W y := b.grown h hX (own_ge hown)

theorem wide_fm (n : Nat) (Z : Nat → Nat → Int) (i j : Nat) : fm (wideZ n Z oneZ) i j = if j < n then fm Z i j else La.one i (j - n) := by
  unfold fm wideZ
  by_cases h : j < n
  · rw [if_pos h, if_pos h]
  · rw [if_neg h, if_neg h]
    unfold oneZ La.one
    split <;> rfl

theorem inv_none_of {n r : Nat} {Z Z9 : Nat → Nat → Int} {p : Nat → Nat} (h : StepInv n (n + n) n r (wideZ n Z oneZ) Z9 p) (hr : r < n) : ¬ ∃ B, ∀ i j, i < n → j < n → La.mm n (fm Z) B i j = La.one i j := by
  rintro ⟨B, hB⟩
  have h1 : La.IsRank n n (fm (wideZ n Z oneZ)) r := La.Stepped.rank (h.1.less (by omega)) h.2
  have h2 : La.IsRank n n (fm (wideZ n Z oneZ)) n := rank_congr (La.rank_of_inv hB) (fun i j _ hj => by rw [wide_fm, if_pos hj])
  have := La.rank_unique h1 h2
  omega

theorem inv_some_of {n : Nat} {Z Z9 : Nat → Nat → Int} {p : Nat → Nat} (h : StepInv n (n + n) n n (wideZ n Z oneZ) Z9 p) : ∀ i j, i < n → j < n → La.mm n (fm Z) (fm (fun i j => Z9 i (n + j))) i j = La.one i j := by
  have e : La.RowEq n (n + n) (fun i j => if j < n then fm Z i j else La.one i (j - n)) (fm Z9) := (La.RowEq.of_eq (fun i j _ _ => wide_fm n Z i j)).trans h.1
  exact La.Stepped.inverse e h.2

/-- an outer row of the call's own over rows in memory -/
theorem mat_of_own {W : World} {base n : Nat} {v : Value} {R : Nat → Option Addr} {L C : Nat → Nat} {Z : Nat → Nat → Int} (h : W.ownsRow base 22 1 v n (rowsU R L C n)) (hr : ∀ r, r < n → RowAt W (R r) (L r) (Z r)) :
    ∃ A cap, v = .slice A n cap ∧ MatAt W A n R L C Z := by
  obtain ⟨_, h2⟩ := h
  rcases h2 with ⟨rfl, rfl⟩ | ⟨g, cap, cur, rfl, hb, hg, h3, h4, h5, h6⟩
  · exact ⟨_, _, rfl, Or.inl rfl, hr⟩
  · refine ⟨_, _, rfl, Or.inr ⟨g, 0, rfl, fun r hr' => ?_⟩, hr⟩
    rw [Nat.zero_add, cell_of_row W g r cur _ _ hg]
    have e : (cur.toList.take (n * 1))[r]? = (rowsU R L C n)[r]? := by rw [h6]
    rw [Nat.mul_one, List.getElem?_take, if_pos hr'] at e
    rw [← Array.getElem?_toList, e]
    unfold rowsU
    rw [List.getElem?_map, List.getElem?_range hr']; rfl

/-- a row from some place on -/
theorem RowAt.from_ {w : World} {b o L s : Nat} {f : Nat → Int} (h : RowAt w (some ⟨b, o, none⟩) (s + L) f) : RowAt w (some ⟨b, o + s, none⟩) L (fun i => f (s + i)) := by
  refine ⟨?_, fun i => h.2 _⟩
  rcases Nat.eq_zero_or_pos L with h0 | h0
  · exact Or.inl h0
  · obtain ⟨b', o', e, hc⟩ := h.at (k := 0) (by omega)
    cases e
    exact Or.inr ⟨b, o + s, rfl, fun i hi => by rw [Nat.add_assoc]; exact hc (s + i) (by omega)⟩

set_option maxRecDepth 100000 in
set_option maxHeartbeats 4000000 in
theorem rinverse_all (A : Option Addr) (n cap : Nat) (R : Nat → Option Addr) (L C : Nat → Nat) (Z : Nat → Nat → Int) (w : World) (h : MatAt w A n R L C Z) (hx : Wrong n L 0) (hn : n ≤ 32) (hn0 : 0 < n) (hsq : colsI n L = (n : Int)) (hLn : ∀ r, r < n → L r = n) :
    Calls Try.prog 25 #[.slice A n cap] w fun e w' => InvSays n Z e w' ∧ Bw w w' := by
  obtain ⟨i0, hi0, hz0, hz1, hz2⟩ := info_parts info_u8
  obtain ⟨j0, hj0, hy0, hy1, hy2⟩ := info_parts info_row
  have HL : Hid (∀ r, r < n → L r = n) := hLn
  go_enter Try.func25, Try.ntmps25
  go_wp2_with (first | (go_at_call 37; refine (rbad_any _ _ _ _ _ _ _ _ h).mono ?_; rintro e w1 ⟨y, rfl, hy, hw⟩; obtain rfl := Wrong.unique hy hx; have h' := h.keep hw) | (go_at_call 28; refine (rcols_any _ _ _ _ _ _ _ _ h').mono ?_; rintro e w' ⟨rfl, hw'⟩; subst w') | (go_at_call 21; refine (rone_ok n hn _).mono ?_; rintro e w2 ⟨v1, R1, C1, rfl, hone, hw2⟩; obtain ⟨g1, cap1, rfl, hg1, hwone⟩ := Work.of_own hone hn0 (fun _ _ => rfl)))
  go_loopw [8, 9] (fun v i wr => ∃ (k : Nat) (R' : Nat → Option Addr) (L' C' : Nat → Nat) (Z' : Nat → Nat → Int), k ≤ n ∧ i = .int .i64 k ∧ OwnMat wr w2.heap.size v k R' L' C' Z' ∧ Hid (∀ r, r < k → L' r = n + n ∧ Z' r = wideZ n Z oneZ r) ∧ Bw w2 wr) (fun _ i _ => n - (intOf i).toNat)
  case atStart => exact ⟨0, fun _ => none, fun _ => 0, fun _ => 0, Z, Nat.zero_le _, rfl, OwnMat.nil _ _ _ _ _ _, (fun r hr => by omega), Bw.refl _⟩
  case round =>
    obtain ⟨k, R', L', C', Z', hk, rfl, hmat, hsame, hwr⟩ := hrel
    by_cases hlt : k < n
    · have hk2 := (h'.keep hw2).keep hwr
      have ho2 := hwone.keep hwr
      have hLk := HL.out k hlt
      obtain ⟨b1, o1, rfl, hc1⟩ := hk2.at hlt
      obtain ⟨b2, o2, e2, hc2⟩ := (hk2.2 k hlt).at (k := 0) (by omega)
      obtain ⟨b4, o4, e4, hc4⟩ := (ho2.row k hlt).at (k := 0) (by omega)
      have c1 := hc1 k hlt
      have c3 := (ho2.cell hlt).1
      have r2 := hk2.2 k hlt
      have r4 := ho2.row k hlt
      rw [e2, hLk] at c1 r2
      rw [e4] at c3 r4
      have l1 : b1 < wr.heap.size := block_lt_of_cell c1
      have l3 := ho2.lt
      have hsz := hwr.size
      have l3' := hwone.lt
      have l1' : b1 < w2.heap.size := by obtain ⟨b9, o9, e9, hc9⟩ := (h'.keep hw2).at hlt; cases e9; exact block_lt_of_cell (hc9 k hlt)
      have ik0 : (0 : Int) ≤ (k : Int) := Int.natCast_nonneg _
      have ik1 : (k : Int) < (n : Int) := by omega
      have hmx : 0 + n ≤ maxLen := by unfold maxLen; omega
      have hmx1 : 0 + n + n ≤ maxLen := by unfold maxLen; omega
      have hmx2 : k + 1 ≤ maxLen := by unfold maxLen; omega
      clear hc1 hc2 hc4 hLk
      go_wp2
      go_region_held3 (fun w' => w'.cell? ⟨b1, o1 + k, none⟩ = some (.slice (some ⟨b2, o2, none⟩) n (C k)) ∧ w'.cell? ⟨g1, k, none⟩ = some (.slice (some ⟨b4, o4, none⟩) n (C1 k)))
        (first
          | go_keep
          | (go_split_ands; refine ⟨far_of hgrow7 ((own_keep hmat.own bw6).alloc _) (by simp; omega) l1' (by assumption), far_of hgrow7 ((own_keep hmat.own bw6).alloc _) (by simp; omega) l3' (by assumption)⟩)
          | (go_split_ands; refine ⟨far_of hgrow6 hown5 sz5 l1 (by assumption), far_of hgrow6 hown5 sz5 l3 (by assumption)⟩)
          | (go_split_ands; refine ⟨far_of hgrow5 ((own_empty wr wr.heap.size _ (Nat.le_refl _)).drew) (by simp) l1 (by assumption), far_of hgrow5 ((own_empty wr wr.heap.size _ (Nat.le_refl _)).drew) (by simp) l3 (by assumption)⟩))
        (first
          | (refine step_append_lies _ (by rfl) (.tmp 41) (.tmp 45) _ (by rfl) wr.heap.size 5 i0 _ 1 1 Try.underlying22 hi0 hz0 hz1 hz2 rfl (by omega) _ _ _ (by rfl) ((own_empty wr wr.heap.size _ (Nat.le_refl _)).drew) ⟨b2, o2, none⟩ n (C k) (cellsU (Z k) n) (by rfl) (by rw [cellsU_len, Nat.mul_one]) (rowat_news (r2.keep (((Below.refl _ _).alloc (Nat.le_refl _) _).drew))) (cellsU_one _ _) (by omega) hmx (by omega) (by simp) (wr.heap.size + 1) (by simp) ?_; intro g5 c5 w5 hown5 hgrow5 hat5 hlt5; have bw5 : Bw wr w5 := bw_fresh (grown_drew hgrow5); have sz5 := bw5.size)
          | (refine step_append_lies _ (by rfl) (.tmp 46) (.tmp 50) _ (by rfl) wr.heap.size 5 i0 _ 1 1 Try.underlying22 hi0 hz0 hz1 hz2 rfl (by omega) _ _ _ (by rfl) hown5 ⟨b4, o4, none⟩ n (C1 k) (cellsU (oneZ k) n) (by rfl) (by rw [cellsU_len, Nat.mul_one]) (rowat_news (r4.keep bw5)) (cellsU_one _ _) (by omega) hmx1 (by omega) sz5 w5.heap.size rfl ?_; intro g6 c6 w6 hown6 hgrow6 hat6 hlt6; have bw6 : Bw wr w6 := bw_grow hgrow6 bw5 sz5 hown5; have sz6 := bw6.size; simp only [Nat.zero_add, List.nil_append] at hown6)
          | (refine step_append_lies _ (by rfl) (.tmp 40) (.tmp 52) _ (by rfl) w2.heap.size 22 j0 _ 1 24 Try.underlying30 hj0 hy0 hy1 hy2 rfl (by omega) _ _ _ (by rfl) ((own_keep hmat.own bw6).alloc _) ⟨w6.heap.size, 0, none⟩ 1 1 [.slice (some ⟨g6, 0, none⟩) (n + n) c6] (by rfl) (by rfl) (World.news_of_block (cs := #[.slice (some ⟨g6, 0, none⟩) (n + n) c6]) (t := 22) (fr := (0, 0)) (heap_alloc_new w6 _)) (by simp [Value.oneCell']) (by omega) hmx2 (by omega) (by simp; omega) (w6.heap.size + 1) (by simp) ?_; intro g7 c7 w7 hown7 hgrow7 hat7 hlt7))
      have hwb : ∀ c, 0 ≤ wideZ n Z oneZ k c ∧ wideZ n Z oneZ k c < 256 := fun c => by
        unfold wideZ; split
        · exact r2.2 c
        · exact oneZ_bd _ _
      rw [cellsU_append] at hown6
      obtain ⟨A8, c8, e8, hl8, hm8, hrow8, hA8⟩ := row_of_own (f := wideZ n Z oneZ k) hwb hown6
      simp only [Value.slice.injEq] at e8
      obtain ⟨rfl, _, rfl⟩ := e8
      have hp := OwnMat.push hmat bw6 hsz hrow8 ⟨hl8, hm8⟩ hA8 hgrow7 hat7 hown7
      go_wp2
      go_roundw
      case rel => exact ⟨k + 1, _, _, _, _, by omega, by go_num, hp.1, same_upd (L := fun _ => n + n) (Z := wideZ n Z oneZ) hsame, hwr.trans' hp.2⟩
      case measure => simp [intOf]; omega
    · have ek : n = k := by omega
      subst ek
      have hmat' := hmat.congr (L := fun _ => n + n) (Z := wideZ n Z oneZ) hsame
      obtain ⟨g3, cap3, rfl, hg3, hwide⟩ := Work.of_own (m := n + n) hmat' hn0 (fun _ _ => rfl)
      have hCn : ∀ r, r < n → R' r = none → C' r = 0 := fun r hr e => by
        obtain ⟨b9, o9, e9, _⟩ := (hwide.row r hr).at (k := 0) (by omega)
        rw [e] at e9; cases e9
      have hst := rsteps_some (some ⟨g3, 0, none⟩) n cap3 (n + n) n R' (fun _ => n + n) C' (wideZ n Z oneZ) wr hwide.mat hCn (fun _ _ => rfl) (by omega) (by omega) hn hn0
      have hle9 : ∀ (r : Nat) (Z9 : Nat → Nat → Int) (p : Nat → Nat), StepInv n (n + n) n r (wideZ n Z oneZ) Z9 p → r ≤ n := fun _ _ _ h => h.2.le
      have hwA : Bw w wr := (hw.trans hw2).trans hwr
      go_wp2_with (go_at_call 39; refine hst.mono ?_; rintro e w9 ⟨g9, cap9, r9, R9, C9, Z9, p9, rfl, hinv9, hwk9, hw9⟩; have hr9 := hle9 _ _ _ hinv9)
      · go_ret2
        exact ⟨Or.inl ⟨rfl, inv_none_of hinv9 (by omega)⟩, hwA.trans hw9⟩
      · have er : r9 = n := by omega
        subst er
        simp only [Nat.lt_irrefl, decide_false]
        obtain ⟨B9, hB9⟩ := Go.Deep.choose_lt (n := r9) (p := fun i (x : Nat × Nat) => R9 i = some ⟨x.1, x.2, none⟩) (fun i hi => by
          obtain ⟨b, o, e, _⟩ := (hwk9.row i hi).at (k := 0) (by omega)
          exact ⟨(b, o), e⟩)
        clear hst hCn hmat hmat' hsame hwide
        go_loopw [12, 13] (fun v i wt => ∃ k : Nat, k ≤ r9 ∧ i = .int .i64 k ∧ wt.ownsRow w9.heap.size 22 1 v k (rowsU (fun i => some ⟨(B9 i).1, (B9 i).2 + r9, none⟩) (fun _ => r9) (fun i => C9 i - r9) k) ∧ Bw w9 wt) (fun _ i _ => r9 - (intOf i).toNat)
        case atStart => exact ⟨0, Nat.zero_le _, rfl, World.ownsRow_nil _ _ _ _, Bw.refl _⟩
        case round =>
          rename World => wt
          obtain ⟨k, hk, rfl, hownk, hwt⟩ := hrel
          by_cases hlt : k < r9
          · have hwt9 := hwk9.keep hwt
            have ck := (hwt9.cell hlt).1
            have hroom := hwk9.room k hlt
            rw [hB9 k hlt] at ck
            have hsz9 := hwt.size
            have lg9 := hwt9.lt
            have hmx : k + 1 ≤ maxLen := by unfold maxLen; omega
            go_wp2_with (at_builtin; refine wpList_append_lies _ (by rfl) (.tmp 68) (.tmp 75) _ (by rfl) w9.heap.size 22 j0 _ 1 24 Try.underlying30 hj0 hy0 hy1 hy2 rfl (by omega) _ _ _ (by rfl) (hownk.alloc _) ⟨wt.heap.size, 0, none⟩ 1 1 [.slice (some ⟨(B9 k).1, (B9 k).2 + r9, none⟩) r9 (C9 k - r9)] (by rfl) (by rfl) (World.news_of_block (cs := #[.slice (some ⟨(B9 k).1, (B9 k).2 + r9, none⟩) r9 (C9 k - r9)]) (t := 22) (fr := (0, 0)) (heap_alloc_new wt _)) (by simp [Value.oneCell']) (by omega) hmx (by omega) (by simp; omega) (wt.heap.size + 1) (by simp) ?_; intro g7 c7 w7 hown7 hgrow7 hat7 hlt7)
            go_roundw
            case rel => exact ⟨k + 1, by omega, by go_num, by rw [rowsU_succ]; exact hown7, (Below.alloc hwt hsz9 _).grown hgrow7 (by simp; omega) (own_ge hownk)⟩
            case measure => simp [intOf]; omega
          · have ek : r9 = k := by omega
            subst ek
            obtain ⟨A', cap', rfl, hres⟩ := mat_of_own (Z := fun i j => Z9 i (r9 + j)) hownk (fun i hi => (RowAt.from_ (s := r9) (hB9 i hi ▸ hwk9.row i hi)).keep hwt)
            have hfin := inv_some_of hinv9
            go_wp2
            go_ret2
            exact ⟨Or.inr ⟨A', cap', _, _, _, rfl, hres, hfin⟩, (hwA.trans hw9).trans hwt⟩

end Go.Proofs.Ytpgjkhlffcomgaa

/- New rows and new matrices: a row scaled, a matrix copied. -/
import Derived.Test.YtpgjkhlffcomgaaM3
namespace Go.Proofs.Ytpgjkhlffcomgaa
open Go.RowKit

set_option maxHeartbeats 1000000 in
theorem rscaled_any (A : Option Addr) (L ca : Nat) (f h : Nat → Int) (c : Int) (c0 : 0 ≤ c) (c1 : c < 256) (hL : L ≤ 131072) (w : World) (ha : RowAt w A L f) (hh : Hid (∀ i, h i = mulI (f i) c)) :
    Calls Try.prog 44 #[.slice A L ca, .int .u8 c] w fun e w' => ∃ v, e = .returned v ∧ w'.ownsRow w.heap.size 5 1 v L (cellsU h L) ∧ Bw w w' := by
  obtain ⟨i0, hi0, hz0, hz1, hz2⟩ := info_parts info_u8
  go_enter Try.func44, Try.ntmps44
  go_wp2
  go_loopw [5, 6] (fun v i wr => ∃ k : Nat, k ≤ L ∧ i = .int .i64 k ∧ wr.ownsRow w.heap.size 5 1 v k (cellsU h k) ∧ Bw w wr) (fun _ i _ => L - (intOf i).toNat)
  case atStart => exact ⟨0, Nat.zero_le _, rfl, World.ownsRow_nil _ _ _ _, Bw.refl _⟩
  case round =>
    obtain ⟨k, hk, rfl, hown, hw⟩ := hrel
    by_cases hlt : k < L
    · obtain ⟨b1, o1, rfl, hc1⟩ := (ha.keep hw).at hlt
      have h1 := hc1 k hlt
      have f1 := ha.2 k
      have r1 : mulI (f k) c = h k := (hh.out k).symm
      have hsz := hw.size
      have hmx : k + 1 ≤ maxLen := by unfold maxLen; omega
      clear hc1
      go_wp2_with (first | (go_at_call 34; refine (rmul_any _ _ (by omega) (by omega) (by omega) (by omega) _).mono ?_; rintro e w' ⟨rfl, hw'⟩; subst w') | (at_builtin; refine wpList_append_lies _ (by rfl) _ _ _ (by rfl) w.heap.size 5 i0 _ 1 1 Try.underlying22 hi0 hz0 hz1 hz2 rfl (by omega) _ _ _ (by rfl) (hown.alloc _) ⟨wr.heap.size, 0, none⟩ 1 1 [.int .u8 (h k)] (by rfl) (by rfl) (World.news_of_block (cs := #[.int .u8 (h k)]) (t := 5) (fr := (0, 0)) (heap_alloc_new wr _)) (by simp [Value.oneCell']) (by omega) hmx (by omega) (by simp; omega) (wr.heap.size + 1) (by simp) ?_; intro gg cap w1 hown1 hgrow hat hlt'))
      go_roundw
      case rel => exact ⟨k + 1, by omega, by go_num, by rw [cellsU_succ]; exact hown1, (Below.alloc hw hsz _).grown hgrow (by simp; omega) (own_ge hown)⟩
      case measure => simp [intOf]; omega
    · have ek : L = k := by omega
      subst ek
      go_wp2
      go_ret
      exact ⟨_, rfl, hown, hw⟩

/-! a row that the call itself has made, as a row in memory -/
theorem row_of_own {W : World} {base L : Nat} {v : Value} {f : Nat → Int} (hf : ∀ i, 0 ≤ f i ∧ f i < 256) (h : W.ownsRow base 5 1 v L (cellsU f L)) :
    ∃ A cap, v = .slice A L cap ∧ L ≤ cap ∧ cap ≤ maxLen ∧ RowAt W A L f ∧ ∀ a, A = some a → base ≤ a.block ∧ a.block < W.heap.size := by
  obtain ⟨_, h⟩ := h
  rcases h with ⟨rfl, rfl⟩ | ⟨g, cap, cur, rfl, hb, hg, h1, h2, h3, h4⟩
  · exact ⟨none, 0, rfl, Nat.le_refl _, Nat.zero_le _, ⟨Or.inl rfl, hf⟩, fun a ha => by cases ha⟩
  · refine ⟨_, cap, rfl, h1, h2, ⟨Or.inr ⟨g, 0, rfl, fun i hi => ?_⟩, hf⟩, fun a ha => by cases ha; exact ⟨hb, (Array.getElem?_eq_some_iff.1 hg).1⟩⟩
    rw [Nat.zero_add, cell_of_row W g i cur _ _ hg]
    have e : (cur.toList.take (L * 1))[i]? = (cellsU f L)[i]? := by rw [h4]
    rw [Nat.mul_one, List.getElem?_take, if_pos hi] at e
    rw [← Array.getElem?_toList, e]
    unfold cellsU
    rw [List.getElem?_map, List.getElem?_range hi]; rfl

theorem info_row : (Try.prog.info? 22).map (fun i => (i.zero, i.size, i.bytes)) = some (some (.slice none 0 0), 1, 24) := by kernel_rfl

/-- the cells of the outer row -/
def rowsU (R : Nat → Option Addr) (L C : Nat → Nat) (k : Nat) : List Value := (List.range k).map fun r => .slice (R r) (L r) (C r)

theorem rowsU_succ (R : Nat → Option Addr) (L C : Nat → Nat) (k : Nat) : rowsU R L C (k + 1) = rowsU R L C k ++ [.slice (R k) (L k) (C k)] := by
  unfold rowsU; rw [List.range_succ, List.map_append]; rfl

theorem rowsU_congr {R R' : Nat → Option Addr} {L L' C C' : Nat → Nat} {k : Nat} (h : ∀ r, r < k → R r = R' r ∧ L r = L' r ∧ C r = C' r) : rowsU R L C k = rowsU R' L' C' k :=
  List.map_congr_left fun r hr => by rw [(h r (List.mem_range.1 hr)).1, (h r (List.mem_range.1 hr)).2.1, (h r (List.mem_range.1 hr)).2.2]

/-- a matrix that the call itself has made: its outer row, its rows apart from it -/
structure OwnMat (W : World) (base : Nat) (v : Value) (n : Nat) (R : Nat → Option Addr) (L C : Nat → Nat) (Z : Nat → Nat → Int) : Prop where
  own : W.ownsRow base 22 1 v n (rowsU R L C n)
  row : ∀ r, r < n → RowAt W (R r) (L r) (Z r)
  cap : ∀ r, r < n → L r ≤ C r ∧ C r ≤ maxLen
  apart : ∀ r a, r < n → R r = some a → base ≤ a.block ∧ a.block < W.heap.size ∧ v.ownBlock ≠ some a.block

theorem OwnMat.nil (W : World) (base : Nat) (R : Nat → Option Addr) (L C : Nat → Nat) (Z : Nat → Nat → Int) : OwnMat W base (.slice none 0 0) 0 R L C Z :=
  ⟨World.ownsRow_nil _ _ _ _, fun r hr => by omega, fun r hr => by omega, fun r _ hr => by omega⟩

/-- a row in memory is as it was behind an append onto another block -/
theorem RowAt.grown {W w1 : World} {row : Option Nat} {A : Option Addr} {L : Nat} {f : Nat → Int} (h : RowAt W A L f) (g : W.grownBy w1 row) (hne : ∀ a, A = some a → row ≠ some a.block) : RowAt w1 A L f := by
  refine ⟨?_, h.2⟩
  rcases h.1 with h0 | ⟨b, off, hA, hc⟩
  · exact Or.inl h0
  · refine Or.inr ⟨b, off, hA, fun i hi => ?_⟩
    have := hc i hi
    rw [World.cell?_of_block (w := W) (g.block b (block_lt_of_cell this) (fun e => hne _ hA e.symm))]
    exact this

end Go.Proofs.Ytpgjkhlffcomgaa

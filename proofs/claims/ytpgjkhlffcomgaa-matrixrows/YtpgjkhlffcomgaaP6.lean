/- Contracts of the program's own tests of a matrix; copies; Dot, Plus, One. -/
import Derived.Test.YtpgjkhlffcomgaaP3
import Derived.Test.YtpgjkhlffcomgaaM14
import Derived.Laws.CopyOwn
namespace Go.Proofs.Ytpgjkhlffcomgaa
open Go.RowKit

/-- a block with a row laid over it at o -/
def cpyF (F : Nat → Int) (o n : Nat) (f : Nat → Int) (k : Nat) : Int := if o ≤ k ∧ k < o + n then f (k - o) else F k

theorem cpyF_bd {F : Nat → Int} {o n : Nat} {f : Nat → Int} (hF : ∀ i, 0 ≤ F i ∧ F i < 256) (hf : ∀ i, 0 ≤ f i ∧ f i < 256) (k : Nat) : 0 ≤ cpyF F o n f k ∧ cpyF F o n f k < 256 := by
  unfold cpyF; split
  · exact hf _
  · exact hF k

theorem u8_one : (Try.prog.info? 5).map (·.size) = some 1 := by kernel_rfl

theorem copy_ok (g o m cap N L cb : Nat) (ty : TypeId) (F f : Nat → Int) (B : Option Addr) (w : World) (hb : BlockIs w g N F) (ho : o + L ≤ N) (hm : L ≤ m) (hB : RowAt w B L f) :
    ∃ w', (Builtin.copy_ #[22, 22] ty #[.slice (some ⟨g, o, none⟩) m cap, .slice B L cb]).run Try.prog w = .ok (goInt L) w' ∧ BlockIs w' g N (cpyF F o L f) ∧ Bx (· = g) w w' := by
  by_cases h0 : L = 0
  · subst h0
    refine ⟨w, run_copy_none w 22 22 ty 5 _ _ m cap 0 cb Try.underlying22 u8_one (Nat.zero_min _), hb.congr (fun k hk => by unfold cpyF; rw [if_neg (by omega)]), Bx.refl _ _⟩
  · obtain ⟨b, off, rfl, hc⟩ := hB.at (k := 0) (by omega)
    obtain ⟨cur, h1, h2, h3⟩ := hb
    have hl : (cellsU f L).length = L := by simp [cellsU]
    have hrun := run_copy_row Try.prog w 22 22 ty 5 g o m cap ⟨b, off, none⟩ L cb cur 5 (cellsU f L) Try.underlying22 u8_one h1 (by rw [hl]; exact (Nat.min_eq_left hm).symm) (rowat_news hB) (by rw [hl]; omega) (fun v hv => by simp only [cellsU, List.mem_map] at hv; obtain ⟨i, _, rfl⟩ := hv; rfl)
    rw [hl] at hrun
    refine ⟨_, hrun, ⟨_, setRow_heap w g cur _ _ _ h1, ?_, fun c hc' => ?_⟩, ⟨rfl, rfl, rfl, by simp [World.setRow], fun k _ hk => setRow_other w g k _ (by omega)⟩⟩
    · simp [hl]; omega
    · rw [List.getElem?_toArray]
      unfold cpyF
      by_cases e : o ≤ c ∧ c < o + L
      · rw [if_pos e, List.append_assoc, List.getElem?_append_right (by simp; omega), List.getElem?_append_left (by simp [hl]; omega)]
        simp only [List.length_take, Array.length_toList, cellsU, List.getElem?_map]
        rw [Nat.min_eq_left (by omega), List.getElem?_range (by omega)]; rfl
      · rw [if_neg e]
        by_cases e2 : c < o
        · rw [List.append_assoc, List.getElem?_append_left (by simp; omega), List.getElem?_take, if_pos e2, Array.getElem?_toList, h3 c hc']
        · rw [List.getElem?_append_right (by simp [hl]; omega), List.getElem?_drop]
          simp only [List.length_append, List.length_take, Array.length_toList, hl]
          rw [Nat.min_eq_left (by omega), show o + L + (c - (o + L)) = c by omega, Array.getElem?_toList, h3 c hc']

theorem columns_any (A : Option Addr) (n cap : Nat) (R : Nat → Option Addr) (L C : Nat → Nat) (Z : Nat → Nat → Int) (w : World) (h : MatAt w A n R L C Z) :
    Calls Try.prog 35 #[.slice A n cap] w fun e w' => e = .returned (.int .i64 (colsI n L)) ∧ w' = w := by
  by_cases h0 : n = 0
  · have e : colsI n L = 0 := by unfold colsI; rw [if_pos h0]
    rw [e]
    subst h0
    go_enter Try.func35, Try.ntmps35
    go_wp2
    go_ret
    exact ⟨rfl, rfl⟩
  · have e : colsI n L = (L 0 : Int) := by unfold colsI; rw [if_neg h0]
    rw [e]
    obtain ⟨b, off, rfl, hc⟩ := h.at (k := 0) (by omega)
    have h1 := hc 0 (by omega)
    rw [Nat.add_zero] at h1
    have hn : ((n : Int) == 0) = false := by simpa using h0
    have hn2 : (0 : Int) < (n : Int) := by omega
    go_enter Try.func35, Try.ntmps35
    go_wp2
    go_ret
    exact ⟨rfl, rfl⟩

theorem wrong_some (A : Option Addr) (n cap : Nat) (R : Nat → Option Addr) (L C : Nat → Nat) (Z : Nat → Nat → Int) (hn : n ≤ 32) (w : World) (h : MatAt w A n R L C Z) :
    Calls Try.prog 29 #[.slice A n cap] w fun e w' => ∃ x, e = .returned (.int .i64 x) ∧ Wrong n L x ∧ w' = w := by
  go_enter Try.func29, Try.ntmps29
  go_wp2
  go_loopw [3, 11] (fun b i wr => ∃ (k : Nat) (ev : Bool), k ≤ n ∧ i = .int .i64 k ∧ b = .bool ev ∧ Hid (∀ r, r < k → L r ≤ 131072) ∧ Hid (ev = true ↔ ∀ r, r < k → L r = L 0) ∧ wr = w) (fun _ i _ => n - (intOf i).toNat)
  case atStart => exact ⟨0, true, Nat.zero_le _, rfl, rfl, (fun r hr => by omega), (show _ ↔ _ from ⟨fun _ r hr => by omega, fun _ => rfl⟩), rfl⟩
  case round =>
    obtain ⟨k, ev, hk, rfl, rfl, hno, hev, e⟩ := hrel
    subst e
    by_cases hlt : k < n
    · obtain ⟨b, off, rfl, hc⟩ := h.at hlt
      have h1 := hc k hlt
      have h2 := hc 0 (by omega)
      rw [Nat.add_zero] at h2
      have hk2 : (0 : Int) < (n : Int) := by omega
      clear hc
      by_cases hl : 131072 < L k
      · go_wp2
        go_ret
        exact ⟨2, rfl, Or.inl ⟨rfl, Or.inr ⟨k, hlt, hl⟩⟩, rfl⟩
      · have hno' : Hid (∀ r, r < k + 1 → L r ≤ 131072) := fun r hr => by by_cases e : r = k; (subst e; omega); exact hno r (by omega)
        cases ev with
        | false =>
          go_wp2
          go_roundw
          case rel =>
            refine ⟨k + 1, false, by omega, by go_num, rfl, hno', (show _ ↔ _ from ⟨fun e => by (cases e), fun e => hev.out.2 (fun r hr => e r (by omega))⟩), by first | rfl | trivial⟩
          case measure => simp [intOf]; omega
        | true =>
          by_cases hl3 : L k = L 0
          · have hl2 : ((L k : Int) == (L 0 : Int)) = true := by rw [hl3]; simp
            go_wp2
            go_roundw
            case rel =>
              refine ⟨k + 1, true, by omega, by go_num, rfl, hno', (show _ ↔ _ from ⟨fun _ r hr => by by_cases e : r = k; (subst e; exact hl3); exact hev.out.1 rfl r (by omega), fun _ => rfl⟩), by first | rfl | trivial⟩
            case measure => simp [intOf]; omega
          · have hl2 : ((L k : Int) == (L 0 : Int)) = false := by simp; omega
            go_wp2
            go_roundw
            case rel =>
              refine ⟨k + 1, false, by omega, by go_num, rfl, hno', (show _ ↔ _ from ⟨fun e => by (cases e), fun e => absurd (e k (by omega)) hl3⟩), by first | rfl | trivial⟩
            case measure => simp [intOf]; omega
    · have ek : n = k := by omega
      subst ek
      cases ev with
      | false =>
        go_wp2
        go_ret
        refine ⟨6, rfl, Or.inr (Or.inl ⟨rfl, hn, hno.out, ?_⟩), rfl⟩
        apply Classical.byContradiction
        intro hne
        have := hev.out.2 (fun r hr => Classical.byContradiction fun e => hne ⟨r, hr, e⟩)
        cases this
      | true =>
        go_wp2
        go_ret
        exact ⟨0, rfl, Or.inr (Or.inr ⟨rfl, hn, hno.out, fun r hr => hev.out.1 (by first | rfl | trivial) r hr⟩), rfl⟩

theorem wrong_long (A : Option Addr) (n cap : Nat) (h : 32 < n) (w : World) :
    Calls Try.prog 29 #[.slice A n cap] w fun e w' => e = .returned (.int .i64 2) ∧ w' = w := by
  go_enter Try.func29, Try.ntmps29
  go_wp2
  go_ret
  exact ⟨rfl, rfl⟩

theorem wrong_any (A : Option Addr) (n cap : Nat) (R : Nat → Option Addr) (L C : Nat → Nat) (Z : Nat → Nat → Int) (w : World) (h : MatAt w A n R L C Z) :
    Calls Try.prog 29 #[.slice A n cap] w fun e w' => ∃ x, e = .returned (.int .i64 x) ∧ Wrong n L x ∧ w' = w := by
  by_cases hn : 32 < n
  · exact (wrong_long A n cap hn w).mono fun e w' ⟨he, hw⟩ => ⟨2, he, Or.inl ⟨rfl, Or.inl hn⟩, hw⟩
  · exact wrong_some A n cap R L C Z (by omega) w h

end Go.Proofs.Ytpgjkhlffcomgaa

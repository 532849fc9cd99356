/- Rows of bytes as texts, and what the document's own Same tells of two matrices. -/
import Derived.Test.YtpgjkhlffcomgaaM6
import Derived.Laws.BytesArg
namespace Go.Proofs.Ytpgjkhlffcomgaa
open Go.RowKit

/-- the text of a row -/
def str (f : Nat → Int) (L : Nat) : ByteArray := strOfNums ((List.range L).map f)

theorem str_inj {f g : Nat → Int} {L M : Nat} (hf : ∀ i, 0 ≤ f i ∧ f i < 256) (hg : ∀ i, 0 ≤ g i ∧ g i < 256) : (str f L).toList = (str g M).toList ↔ L = M ∧ ∀ i, i < L → f i = g i := by
  have e : ∀ (h : Nat → Int) (n : Nat), (str h n).toList = (List.range n).map fun i => UInt8.ofNat (h i).toNat := fun h n => by
    rw [ByteArray.toList_eq]
    show (strOfNums _).data.toList = _
    rw [strOfNums_data, List.map_map]; rfl
  rw [e, e]
  constructor
  · intro h
    have hl : L = M := by have := congrArg List.length h; simpa using this
    subst hl
    refine ⟨rfl, fun i hi => ?_⟩
    have h2 := congrArg (fun l => l[i]?) h
    simp only [List.getElem?_map, List.getElem?_range hi, Option.map_some, Option.some.injEq] at h2
    have h3 := congrArg UInt8.toNat h2
    have a := hf i
    have b := hg i
    simp only [UInt8.toNat_ofNat'] at h3
    omega
  · rintro ⟨rfl, h⟩
    exact List.map_congr_left fun i hi => by rw [h i (List.mem_range.1 hi)]

theorem conv_row {w : World} {A : Option Addr} {L C : Nat} {f : Nat → Int} (h : RowAt w A L f) : (convert 22 9 (.slice A L C)).run Try.prog w = .ok (.string (str f L)) w := by
  cases A with
  | none =>
    have hL : L = 0 := by
      rcases h.1 with h0 | ⟨b, off, e', _⟩
      · exact h0
      · cases e'
    subst hL
    rw [run_convert_bytes_nil w 22 5 Try.underlying22 Try.underlying5 0 C 9 Try.underlying9]
    rfl
  | some a =>
    rcases h.1 with h0 | ⟨b, off, e, hc⟩
    · subst h0
      have hl : (loadCells a 0).run Try.prog w = .ok (([] : List Int).map (Value.int .u8)).toArray w := by simp [loadCells, loadCellsFrom]
      rw [run_convert_bytes_string w 22 9 5 _ 0 C Try.underlying22 Try.underlying5 Try.underlying9, run_bytesToString w a 0 C [] hl]
      rfl
    · cases e
      refine run_convert_bytes_arg w 22 5 Try.underlying22 Try.underlying5 b off L C ((List.range L).map f) (by simp) (fun i hi => ?_) 9 Try.underlying9
      rw [hc i hi]
      simp [List.getD, List.getElem?_range hi]

theorem ret_of_bool {a b : Bool} (h : a = b) : Ending.returned (.bool a) = .returned (.bool b) := by rw [h]

/-- two matrices are the same -/
def SameM (n m : Nat) (L M : Nat → Nat) (Z Y : Nat → Nat → Int) : Prop := n = m ∧ ∀ r, r < n → L r = M r ∧ ∀ i, i < L r → Z r i = Y r i

theorem rsame_any (A B : Option Addr) (n m ca cb : Nat) (R S : Nat → Option Addr) (L C M D : Nat → Nat) (Z Y : Nat → Nat → Int) (hn : n ≤ 9223372036854775807) (w : World) (ha : MatAt w A n R L C Z) (hb : MatAt w B m S M D Y) :
    Calls Try.prog 18 #[.slice A n ca, .slice B m cb] w fun e w' => ∃ x, e = .returned (.bool x) ∧ (x = true ↔ SameM n m L M Z Y) ∧ Bw w w' := by
  by_cases hnm : n = m
  · subst hnm
    go_enter Try.func18, Try.ntmps18
    go_wp2
    go_loopw [5] (fun i wr => ∃ k : Nat, k ≤ n ∧ i = .int .i64 k ∧ Hid (∀ r, r < k → L r = M r ∧ ∀ i, i < L r → Z r i = Y r i) ∧ Bw w wr) (fun i _ => n - (intOf i).toNat)
    case atStart => exact ⟨0, Nat.zero_le _, rfl, (fun r hr => by omega), Bw.refl _⟩
    case round =>
      obtain ⟨k, hk, rfl, hsame, hw⟩ := hrel
      by_cases hlt : k < n
      · obtain ⟨b1, o1, rfl, hc1⟩ := (ha.keep hw).at hlt
        obtain ⟨b2, o2, rfl, hc2⟩ := (hb.keep hw).at hlt
        have h1 := hc1 k hlt
        have h2 := hc2 k hlt
        have r1 := (ha.2 k hlt).keep hw
        have r2 := (hb.2 k hlt).keep hw
        have cv1 : ∀ q, (convert 22 9 (.slice (R k) (L k) (C k))).run Try.prog (wr.drewN q) = .ok (.string (str (Z k) (L k))) (wr.drewN q) := fun q => conv_row (r1.keep (Bw.drewN _ q))
        have cv2 : ∀ q, (convert 22 9 (.slice (S k) (M k) (D k))).run Try.prog (wr.drewN q) = .ok (.string (str (Y k) (M k))) (wr.drewN q) := fun q => conv_row (r2.keep (Bw.drewN _ q))
        have hk0 : (0 : Int) ≤ (k : Int) := Int.natCast_nonneg _
        have hk1 : (k : Int) < (n : Int) := by omega
        have hin := str_inj (L := L k) (M := M k) r1.2 r2.2
        clear hc1 hc2
        by_cases he : (str (Z k) (L k)).toList = (str (Y k) (M k)).toList
        · have he2 : ((str (Z k) (L k)).toList == (str (Y k) (M k)).toList) = true := by simpa using he
          go_wp2
          go_quiet (fail)
          go_wp2
          go_roundw
          case rel => exact ⟨k + 1, by omega, by go_num, (fun r hr => by by_cases e : r = k; (subst e; exact hin.1 he); exact hsame r (by omega)), hw.trans (Bw.drewN _ _)⟩
          case measure => simp [intOf]; omega
        · have he2 : ((str (Z k) (L k)).toList == (str (Y k) (M k)).toList) = false := by simpa using he
          go_wp2
          go_quiet (fail)
          go_wp2
          go_ret
          exact ⟨false, rfl, ⟨fun h => (by cases h), fun h => absurd (hin.2 (h.2 k hlt)) he⟩, hw.trans (Bw.drewN _ _)⟩
      · have ek : n = k := by omega
        subst ek
        go_wp2
        go_ret
        exact ⟨true, rfl, ⟨fun _ => ⟨rfl, hsame.out⟩, fun _ => rfl⟩, hw⟩
  · have hne : ((n : Int) != (m : Int)) = true := by simp; omega
    go_enter Try.func18, Try.ntmps18
    go_wp2
    go_ret
    exact ⟨false, rfl, ⟨fun h => (by cases h), fun h => absurd h.1 hnm⟩, Bw.refl _⟩

end Go.Proofs.Ytpgjkhlffcomgaa

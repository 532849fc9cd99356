/- What '==' tells of two arrays of 32 bytes. -/
import Derived.Test.YtcpapaceggnaoaaDoorED
import Derived.Test.YtcpapaceggnaoaaDoorFb
import Derived.Stop.BytesEq
namespace Go.Proofs.YtcpapaceggnaoaaDoor
open Go.RowKit Go.Deep

theorem cells_b32 {T : Array Value} {d : Nat → Nat} (hs : T.size = 32) (hd : ∀ i, d i < 256) (h : ∀ i, i < 32 → T[i]? = some (.int .u8 ((d i : Nat) : Int))) :
    T = (((List.range 32).map fun i => UInt8.ofNat (d i)).map Extern.Stop.cell).toArray := by
  apply Array.ext_getElem?
  intro i
  by_cases hi : i < 32
  · rw [h i hi, List.getElem?_toArray, List.getElem?_map, List.getElem?_map, List.getElem?_range hi]
    simp only [Option.map_some, Extern.Stop.cell, UInt8.toNat_ofNat']
    rw [Nat.mod_eq_of_lt (hd i)]; rfl
  · rw [Array.getElem?_eq_none (by omega), Array.getElem?_eq_none (by simp; omega)]
theorem guard32 : Tryd.prog.eqGuardType Tryd.prog.depth 23 = false := by kernel_rfl
theorem size_u8 (w : World) : (sizeOf 5).run Tryd.prog w = .ok 1 w := by
  obtain ⟨i0, hi0, _, hz1, _⟩ := info_parts info_u8
  simp [sizeOf, typeInfo, hi0, hz1]
/-- whether the first 32 are alike -/
def same32 (d e : Nat → Nat) : Bool := (List.range 32).all fun i => d i == e i
theorem same32_iff {d e : Nat → Nat} : same32 d e = true ↔ ∀ i, i < 32 → d i = e i := by
  unfold same32
  rw [List.all_eq_true]
  constructor
  · intro h i hi
    exact beq_iff_eq.1 (h i (List.mem_range.2 hi))
  · intro h i hi
    exact beq_iff_eq.2 (h i (List.mem_range.1 hi))
theorem same32_rfl {d e : Nat → Nat} (h : d = e) : same32 d e = true := by rw [same32_iff, h]; exact fun _ _ => rfl
theorem list_b32 {d e : Nat → Nat} (hd : ∀ i, d i < 256) (he : ∀ i, e i < 256) : (((List.range 32).map fun i => UInt8.ofNat (d i)) == ((List.range 32).map fun i => UInt8.ofNat (e i))) = same32 d e := by
  rw [Bool.eq_iff_iff, beq_iff_eq, same32_iff]
  constructor
  · intro h i hi
    have h2 := congrArg (fun l => l[i]?) h
    simp only [List.getElem?_map, List.getElem?_range hi, Option.map_some, Option.some.injEq] at h2
    have h3 := congrArg UInt8.toNat h2
    simp only [UInt8.toNat_ofNat'] at h3
    have a := hd i
    have b := he i
    omega
  · intro h
    exact List.map_congr_left fun i hi => by rw [h i (List.mem_range.1 hi)]
theorem equal32 {T U : Array Value} {d e : Nat → Nat} (hT : In32 T d) (hU : In32 U e) (w : World) : (Op.equalIn 10000 23 (.agg T) (.agg U)).run Tryd.prog w = .ok (same32 d e) w := by
  rw [cells_b32 hT.size hT.bd hT.at_, cells_b32 hU.size hU.bd hU.at_, ← list_b32 hT.bd hU.bd]
  exact run_equalIn_bytes w 9998 23 5 32 Tryd.underlying23 Tryd.underlying5 size_u8 _ _ (by simp) (by simp)
end Go.Proofs.YtcpapaceggnaoaaDoor

/- What a call is told of an array of 32 bytes that came in. -/
import Derived.Test.YtcpapaceggnaoaaDoorK0
import Derived.WideKeyArr2
namespace Go.Proofs.YtcpapaceggnaoaaDoor
open Go.ChangeShapes Go.WideShapes Go.RowKit Go.Deep Go.WideMaps

/-- an array of 32 bytes -/
structure In32 (T : Array Value) (d : Nat → Nat) : Prop where
  size : T.size = 32
  bd : ∀ i, d i < 256
  at_ : ∀ i, i < 32 → T[i]? = some (.int .u8 ((d i : Nat) : Int))

theorem trod_one {H : Type} {enc : TypeId × Value → H} {W : World} {m : Nat} {cs : List Value} {y : DataW H × List MemPlace} {i : Nat} (h : DataW.trod enc Tryd.prog W 0 (fun _ => true) true m 5 ((cs.drop (i * 1)).take 1) = some y) : ∃ a : Int, cs[i]? = some (.int .u8 a) ∧ 0 ≤ a ∧ a < 256 := by
  obtain ⟨a, ea, _, wa⟩ := DataW.trod_int Tryd.underlying5 h
  have hb := bounds_u8 wa
  refine ⟨a, ?_, by omega, by omega⟩
  rw [Nat.mul_one] at ea
  have : ((cs.drop i).take 1)[0]? = some (.int .u8 a) := by rw [ea]; rfl
  rwa [List.getElem?_take, if_pos (by omega), List.getElem?_drop, Nat.add_zero] at this

theorem mapM_at {H : Type} {f : Nat → Option H} : ∀ {L : List Nat} {xs : List H}, L.mapM f = some xs → ∀ i ∈ L, ∃ y, f i = some y
  | [], _, _, i, hi => by cases hi
  | a :: L, xs, h, i, hi => by
    rw [List.mapM_cons] at h
    simp only [bind, Option.bind_eq_some_iff, pure, Option.some.injEq] at h
    obtain ⟨y, hy, ys, hys, -⟩ := h
    rcases List.mem_cons.1 hi with rfl | hi
    · exact ⟨y, hy⟩
    · exact mapM_at hys i hi

theorem arr32 : ArrKey Tryd.prog 23 5 32 := ⟨Tryd.underlying23, by kernel_rfl, by kernel_rfl, by kernel_rfl⟩

theorem open_b32 {H : Type} {enc : TypeId × Value → H} {W : World} {b0 : Nat} {v : Value} {d : DataW H} {p : List MemPlace} (hval : Value.okWide Tryd.prog W .any b0 23 v)
    (h : DataW.Trod enc Tryd.prog W 0 (fun _ => true) true 23 v d p) : ∃ (T : Array Value) (g : Nat → Nat), v = .agg T ∧ In32 T g := by
  obtain ⟨T, rfl, hn⟩ := okWide_arr arr32 hval
  obtain ⟨fuel, hf⟩ := h
  cases fuel with
  | zero => simp [DataW.trod] at hf
  | succ m =>
    rw [DataW.trod_step] at hf
    unfold DataW.trodStep at hf
    simp only [arr32.hu, Value.cells] at hf
    rw [if_pos (by rw [arr32.size]; simpa using hn)] at hf
    simp only [Option.map_eq_some_iff] at hf
    obtain ⟨ys, hy, -⟩ := hf
    rw [arr32.one] at hy
    have hat : ∀ i, i < 32 → ∃ a : Int, T[i]? = some (.int .u8 a) ∧ 0 ≤ a ∧ a < 256 := fun i hi => by
      obtain ⟨y, hy'⟩ := mapM_at hy i (List.mem_range.2 hi)
      obtain ⟨a, h1, h2⟩ := trod_one hy'
      exact ⟨a, by rwa [Array.getElem?_toList] at h1, h2⟩
    refine ⟨T, fun i => if h : i < 32 then (hat i h).choose.toNat else 0, rfl, hn, fun i => ?_, fun i hi => ?_⟩
    · by_cases hi : i < 32
      · simp only [dif_pos hi]
        have := (hat i hi).choose_spec
        omega
      · simp only [dif_neg hi]; decide
    · have := (hat i hi).choose_spec
      simp only [dif_pos hi]
      rw [Int.toNat_of_nonneg this.2.1]
      exact this.1
end Go.Proofs.YtcpapaceggnaoaaDoor

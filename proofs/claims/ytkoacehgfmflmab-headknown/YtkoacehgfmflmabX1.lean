/- The statements' own small, same, place, lent, kept and awake, of layer 10; two heads held against each other (written by mkx10.py). -/
import Derived.Test.YtkoacehgfmflmabJA
import Derived.Test.YtkoacehgfmflmabO8
import Derived.Laws.StructEq
namespace Go.Proofs.Ytkoacehgfmflmab
open Go.RowKit Go.Deep
set_option linter.unusedVariables false
set_option linter.unusedSimpArgs false

theorem eqOfB (a b : Hd.B) : ((Hd.S a).toList == (Hd.S b).toList) = (a == b) := by rw [Hd.toList_S, Hd.toList_S]
theorem hd_eq (a b : Hd.Hdr) : a = b ↔ a.name = b.name ∧ a.pre = b.pre ∧ a.mode = b.mode ∧ a.size = b.size ∧ a.time = b.time ∧ a.typ = b.typ ∧ a.link = b.link := by
  constructor
  · rintro rfl; exact ⟨rfl, rfl, rfl, rfl, rfl, rfl, rfl⟩
  · rintro ⟨h1, h2, h3, h4, h5, h6, h7⟩
    cases a; cases b
    simp only at h1 h2 h3 h4 h5 h6 h7
    subst h1 h2 h3 h4 h5 h6 h7
    rfl
/-- what '==' tells of two heads -/
def Hd.eqB (a b : Hd.Hdr) : Bool := a.name == b.name && (a.pre == b.pre && (a.mode == b.mode && (a.size == b.size && (a.time == b.time && (((a.typ.toNat : Nat) : Int) == ((b.typ.toNat : Nat) : Int) && a.link == b.link)))))
theorem Hd.eqB_iff (a b : Hd.Hdr) : Hd.eqB a b = true ↔ a = b := by
  rw [hd_eq]
  unfold Hd.eqB
  simp only [Bool.and_eq_true, beq_iff_eq]
  have k : (((a.typ.toNat : Nat) : Int) = ((b.typ.toNat : Nat) : Int)) ↔ a.typ = b.typ := ⟨fun h => UInt8.toNat_inj.1 (by omega), fun h => by rw [h]⟩
  rw [k]
theorem Hd.eqB_same (a : Hd.Hdr) : Hd.eqB a a = true := (Hd.eqB_iff a a).2 rfl
set_option maxRecDepth 100000 in
theorem equalIn_head (W : World) (a b : Hd.Hdr) : (Op.equalIn 10000 23 (.agg (Hd.hv a)) (.agg (Hd.hv b))).run Try.prog W = .ok (Hd.eqB a b) W := by
  unfold Hd.hv Hd.eqB
  rw [run_equalIn_struct W 9999 23 _ _ (by kernel_rfl) (by kernel_rfl)]
  rw [← eqOfB a.name b.name, ← eqOfB a.pre b.pre, ← eqOfB a.link b.link]
  cases h1 : ((Hd.S a.name).toList == (Hd.S b.name).toList)
  · simp [go_sem, Op.eqFields, h1]
  cases h2 : ((Hd.S a.pre).toList == (Hd.S b.pre).toList)
  · simp [go_sem, Op.eqFields, h1, h2]
  cases h3 : (a.mode == b.mode)
  · simp [go_sem, Op.eqFields, h1, h2, h3]
  cases h4 : (a.size == b.size)
  · simp [go_sem, Op.eqFields, h1, h2, h3, h4]
  cases h5 : (a.time == b.time)
  · simp [go_sem, Op.eqFields, h1, h2, h3, h4, h5]
  cases h6 : (((a.typ.toNat : Nat) : Int) == ((b.typ.toNat : Nat) : Int))
  · simp [go_sem, Op.eqFields, h1, h2, h3, h4, h5, h6]
  cases h7 : ((Hd.S a.link).toList == (Hd.S b.link).toList)
  · simp [go_sem, Op.eqFields, h1, h2, h3, h4, h5, h6, h7]
  · simp [go_sem, Op.eqFields, h1, h2, h3, h4, h5, h6, h7]
theorem guard_head : Try.prog.eqGuardType Try.prog.depth 23 = false := by kernel_rfl
/-- the head of the chapter's examples -/
def Hd.small : Hd.Hdr := ⟨[97], 420, 3, 0, 48, [], []⟩
theorem Hd.small_good : Hd.Good Hd.small := Hd.may_good (by decide)
theorem Hd.small_sum : Hd.sumB (Hd.layB Hd.small) = 3809 := by decide +kernel
theorem Hd.small_mid : ((Hd.layB Hd.small).drop 148).take 8 = [48, 48, 55, 51, 52, 49, 0, 32] := by decide +kernel
def Hd.small7 : Array Value := #[.string ⟨#[97]⟩, .string ⟨#[]⟩, .int .i64 420, .int .i64 3, .int .i64 0, .int .u8 48, .string ⟨#[]⟩]
theorem Hd.small_hv : Hd.hv Hd.small = Hd.small7 := rfl
theorem built_small : Try.prog.built 23 [(0, .string ⟨#[97]⟩), (2, .int .i64 420), (3, .int .i64 3), (5, .int .u8 48)] = some Hd.small7 := by kernel_rfl
set_option maxRecDepth 100000 in
theorem small_any (w : World) : Calls Try.prog 9 #[] w fun e w' => e = .returned (.agg (Hd.hv Hd.small)) ∧ Bw w w' := by
  have hz7 := zero_head
  have hih := info_head Hd.small
  obtain ⟨N, hN⟩ : ∃ N, Hid (N = Hd.none7) := ⟨_, rfl⟩
  rw [← hN.out] at hz7
  have HNS : Hid (N.size = (Hd.hv Hd.small).size) := by show _ = _; rw [hN.out]; rfl
  have HO := Hd.hv_one Hd.small
  have HO' : Hid ((Hd.hv Hd.small).all (·.oneCell') = true) := HO
  clear HO
  rw [Hd.small_hv] at *
  go_enter Try.func9, Try.ntmps9
  go_wp2_with (first
    | (refine wpList_built10 rfl 23 _ rfl Hd.small7 (by kernel_rfl) ?_)
    | (refine wpList_store_row rfl 23 _ _ rfl w.heap.size Hd.small7 rfl rfl 23 N (heap_alloc_new _ _) hih HNS.out HO'.out ?_; rw [setRow_alloc_new]))
  exact bodyPost_ret (results_cell_row Try.results9 _ _ w.heap.size 23 Hd.small7 (0, 0) _ rfl (heap_alloc_new _ _) Try.underlying23 rfl hih) rfl ⟨rfl, bw_alloc7 (Bw.refl _) _⟩
theorem conv_arr {w : World} {g : Nat} {l : Hd.B} (h : ArrAt w g l) (o n C : Nat) (hn : o + n ≤ l.length) : (convert 25 9 (.slice (some ⟨g, o, none⟩) n C)).run Try.prog w = .ok (.string (Hd.S ((l.drop o).take n))) w := by
  have := conv_row (C := C) (h.row o n hn)
  have el : ((l.drop o).take n).length = n := by rw [List.length_take, List.length_drop]; omega
  have e := Hd.str_S ((l.drop o).take n)
  rw [el] at e
  rw [← e]
  exact this
theorem hPut_good (h : Hd.Hdr) (g : Hd.Good h) (w : World) : Calls Try.prog 6 #[.agg (Hd.hv h)] w fun e w' => ∃ b, e = .returned (.tuple #[.slice (some ⟨b, 0, none⟩) 512 512, .int .i64 0]) ∧ NewArr w w' b (Hd.layB h) ∧ Bw w w' := by
  refine (hPut_any h w).mono ?_
  rintro e w' ⟨-, h2, h3⟩
  obtain ⟨b, he, hn⟩ := h2 (Hd.good_may g)
  exact ⟨b, he, hn, h3⟩
theorem arr_row512 {w : World} {g : Nat} {l : Hd.B} (h : ArrAt w g l) (hl : l.length = 512) : RowAt w (some ⟨g, 0, none⟩) 512 (Hd.rowF l) := by
  have := h.row 0 512 (by omega)
  rw [List.drop_zero, List.take_of_length_le (by omega)] at this
  exact this
theorem hGet_lay (h : Hd.Hdr) (g : Hd.Good h) (b ca : Nat) (w : World) (ha : ArrAt w b (Hd.layB h)) : Calls Try.prog 8 #[.slice (some ⟨b, 0, none⟩) 512 ca] w fun e w' => e = .returned (.tuple #[.agg (Hd.hv h), .int .i64 0]) ∧ Bw w w' := by
  refine (hGet_any _ 512 ca (Hd.layB h) (Hd.lay_len g) w (arr_row512 ha (Hd.lay_len g))).mono ?_
  rintro e w' ⟨⟨k, er, he, hr⟩, hw⟩
  obtain ⟨rfl, rfl⟩ := Hd.reads_lay g hr
  exact ⟨he, hw⟩
set_option maxRecDepth 100000 in
set_option maxHeartbeats 8000000 in
theorem awake10_any (w : World) : Calls Try.prog 5 #[] w fun e w' => e = .returned (.bool true) ∧ Bw w w' := by
  have hz7 := zero_head
  have hih := info_head Hd.small
  have hgr := guard_head
  obtain ⟨N, hN⟩ : ∃ N, Hid (N = Hd.none7) := ⟨_, rfl⟩
  rw [← hN.out] at hz7
  have HNS : Hid (N.size = (Hd.hv Hd.small).size) := by show _ = _; rw [hN.out]; rfl
  have hlen : Hid ((Hd.layB Hd.small).length = 512) := Hd.lay_len Hd.small_good
  have HMID : Hid (((Hd.layB Hd.small).drop 148).take 8 = [48, 48, 55, 51, 52, 49, 0, 32]) := Hd.small_mid
  have HSUM : Hid (Hd.sumB (Hd.layB Hd.small) = 3809) := Hd.small_sum
  obtain ⟨D, hD⟩ : ∃ D, Hid (D = Hd.small) := ⟨_, rfl⟩
  have hgd : Hid (Hd.Good D) := by rw [hD.out]; exact Hd.small_good
  have hsm := fun W => small_any W
  have HSM : Hid (∀ W, Calls Try.prog 9 #[] W fun e w' => e = .returned (.agg (Hd.hv D)) ∧ Bw W w') := fun W => by rw [hD.out]; exact hsm W
  clear hsm
  have HO : Hid ((Hd.hv D).all (·.oneCell') = true) := Hd.hv_one D
  rw [← hD.out] at hih HNS hlen HMID HSUM
  obtain ⟨X, hX⟩ : ∃ X, Hid (X = Hd.S [48, 48, 55, 51, 52, 49, 0, 32]) := ⟨_, rfl⟩
  have m1 : (X.toList == [48, 48, 55, 51, 52, 49, 0, 32]) = true := by rw [hX.out, Hd.toList_S]; rfl
  have m2 : (X.toList == (ByteArray.mk #[48, 48, 55, 51, 52, 49, 0, 32]).toList) = true := by
    rw [show (ByteArray.mk #[48, 48, 55, 51, 52, 49, 0, 32]).toList = [48, 48, 55, 51, 52, 49, 0, 32] from ByteArray.toList_mk _]
    exact m1
  go_enter Try.func5, Try.ntmps5
  go_wp2_with (first
    | (go_at_call 9; refine (HSM.out _).mono ?_; rintro e w1 ⟨rfl, hw1⟩)
    | (go_at_call 6; refine (hPut_good D hgd.out _).mono ?_; rintro e w2 ⟨b, rfl, hn2, hw2⟩; have hA2 := hn2.arr; have cv := conv_arr hA2 148 8 364 (by rw [hlen.out]; omega); rw [HMID.out, ← hX.out] at cv; have hb2 := hw1.trans hw2)
    | (go_at_call 11; refine (hSum_any _ 512 512 (Hd.layB D) hlen.out _ (arr_row512 hA2 hlen.out)).mono ?_; rintro e w3 ⟨-, h3, hw3⟩; obtain rfl := h3 rfl; rw [HSUM.out]; have hA3 := hA2.keep hw3; have hb3 := hb2.trans hw3)
    | (go_at_call 8; refine (hGet_lay D hgd.out b 512 _ hA3).mono ?_; rintro e w4 ⟨rfl, hw4⟩; have hb4 := hb3.trans hw4)
    | (refine wpList_store_row rfl 23 _ _ rfl w4.heap.size (Hd.hv D) rfl rfl 23 N (heap_alloc_new _ _) hih HNS.out HO.out ?_; rw [setRow_alloc_new]; obtain ⟨W5, hW5⟩ : ∃ V, V = w4.alloc (.cells (Hd.hv D) 23) := ⟨_, rfl⟩; have hH5 : HeadAt W5 w4.heap.size D := (by rw [hW5]; exact heap_alloc_new _ _); have hb5 : Bw w W5 := (by rw [hW5]; exact bw_alloc7 hb4 _); rw [← hW5]; clear hW5))
  clear cv hz7
  have hdr5 : Bw W5 W5.drew := (Below.refl _ _).drew
  have hq : ∀ W, (Op.equalIn 10000 23 (.agg (Hd.hv D)) (.agg (Hd.hv D))).run Try.prog W = .ok true W := fun W => by rw [equalIn_head W D D, Hd.eqB_same]
  refine wp_region_held_drew (S := fun w' => HeadAt w' w4.heap.size D) (by kernel_rfl) (hH5.keep hdr5) (fun hHeld => ?_)
  refine wpAnyH_take (i := 0) (v := ?_) rfl (by kernel_rfl) (by kernel_rfl) (by kernel_rfl) (fun _ _ _ h => h) (Or.inl ⟨by rfl, ?_⟩) (by assumption) ?_
  rotate_left
  · intro w hSw; (try dsimp only at hSw); go_simp; all_goals (with_reducible rfl)
  try simp only [Act.put, List.setIfInBounds_toArray, List.set_cons_zero, List.set_cons_succ, List.getElem_toArray, List.getElem_cons_succ, List.getElem_cons_zero]
  refine wpAnyH_take (i := 1) (v := ?_) rfl (by kernel_rfl) (by kernel_rfl) (by kernel_rfl) (fun _ _ _ h => h) (Or.inl ⟨by rfl, ?_⟩) (by assumption) ?_
  rotate_left
  · intro w hSw; (try dsimp only at hSw); go_simp; all_goals (with_reducible rfl)
  try simp only [Act.put, List.setIfInBounds_toArray, List.set_cons_zero, List.set_cons_succ, List.getElem_toArray, List.getElem_cons_succ, List.getElem_cons_zero]
  refine wpAnyH_take (i := 2) (v := ?_) rfl (by kernel_rfl) (by kernel_rfl) (by kernel_rfl) (fun _ _ _ h => h) (Or.inl ⟨by rfl, ?_⟩) (by assumption) ?_
  rotate_left
  · intro w hSw; (try dsimp only at hSw); go_simp; all_goals (with_reducible rfl)
  try simp only [Act.put, List.setIfInBounds_toArray, List.set_cons_zero, List.set_cons_succ, List.getElem_toArray, List.getElem_cons_succ, List.getElem_cons_zero]
  refine wpAnyH_take (i := 3) (v := ?_) rfl (by kernel_rfl) (by kernel_rfl) (by kernel_rfl) (fun _ _ _ h => h) (Or.inl ⟨by rfl, ?_⟩) (by assumption) ?_
  rotate_left
  · intro w hSw; (try dsimp only at hSw); go_simp; all_goals (with_reducible rfl)
  try simp only [Act.put, List.setIfInBounds_toArray, List.set_cons_zero, List.set_cons_succ, List.getElem_toArray, List.getElem_cons_succ, List.getElem_cons_zero]
  refine wpAnyH_take (i := 4) (v := ?_) rfl (by kernel_rfl) (by kernel_rfl) (by kernel_rfl) (fun _ _ _ h => h) (Or.inl ⟨by rfl, ?_⟩) (by assumption) ?_
  rotate_left
  · intro w hSw; (try dsimp only at hSw); go_simp; all_goals (with_reducible rfl)
  try simp only [Act.put, List.setIfInBounds_toArray, List.set_cons_zero, List.set_cons_succ, List.getElem_toArray, List.getElem_cons_succ, List.getElem_cons_zero]
  refine wpAnyH_take (i := 5) (v := ?_) rfl (by kernel_rfl) (by kernel_rfl) (by kernel_rfl) (fun _ _ _ h => h) (Or.inl ⟨by rfl, ?_⟩) (by assumption) ?_
  rotate_left
  · intro w hSw; (try dsimp only at hSw); go_simp; all_goals (with_reducible rfl)
  try simp only [Act.put, List.setIfInBounds_toArray, List.set_cons_zero, List.set_cons_succ, List.getElem_toArray, List.getElem_cons_succ, List.getElem_cons_zero]
  refine wpAnyH_take (i := 6) (v := ?_) rfl (by kernel_rfl) (by kernel_rfl) (by kernel_rfl) (fun _ _ _ h => h) (Or.inl ⟨by rfl, ?_⟩) (by assumption) ?_
  rotate_left
  · intro w hSw; (try dsimp only at hSw); go_simp; all_goals (with_reducible rfl)
  try simp only [Act.put, List.setIfInBounds_toArray, List.set_cons_zero, List.set_cons_succ, List.getElem_toArray, List.getElem_cons_succ, List.getElem_cons_zero]
  refine wpAnyH_take (i := 7) (v := ?_) rfl (by kernel_rfl) (by kernel_rfl) (by kernel_rfl) (fun _ _ _ h => h) (Or.inl ⟨by rfl, ?_⟩) (by assumption) ?_
  rotate_left
  · intro w hSw; (try dsimp only at hSw); go_simp; all_goals (with_reducible rfl)
  try simp only [Act.put, List.setIfInBounds_toArray, List.set_cons_zero, List.set_cons_succ, List.getElem_toArray, List.getElem_cons_succ, List.getElem_cons_zero]
  refine wpAnyH_take (i := 8) (v := ?_) rfl (by kernel_rfl) (by kernel_rfl) (by kernel_rfl) (fun _ _ _ h => h) (Or.inl ⟨by rfl, ?_⟩) (by assumption) ?_
  rotate_left
  · intro w hSw; (try dsimp only at hSw); go_simp; all_goals (with_reducible rfl)
  try simp only [Act.put, List.setIfInBounds_toArray, List.set_cons_zero, List.set_cons_succ, List.getElem_toArray, List.getElem_cons_succ, List.getElem_cons_zero]
  refine wpAnyH_take (i := 9) (v := ?_) rfl (by kernel_rfl) (by kernel_rfl) (by kernel_rfl) (fun _ _ _ h => h) (Or.inl ⟨by rfl, ?_⟩) (by assumption) ?_
  rotate_left
  · intro w hSw; (try dsimp only at hSw); go_simp; all_goals (with_reducible rfl)
  try simp only [Act.put, List.setIfInBounds_toArray, List.set_cons_zero, List.set_cons_succ, List.getElem_toArray, List.getElem_cons_succ, List.getElem_cons_zero]
  refine wpAnyH_take (i := 10) (v := ?_) rfl (by kernel_rfl) (by kernel_rfl) (by kernel_rfl) (fun _ _ _ h => h) (Or.inl ⟨by rfl, ?_⟩) (by assumption) ?_
  rotate_left
  · intro w hSw; (try dsimp only at hSw); go_simp; all_goals (with_reducible rfl)
  try simp only [Act.put, List.setIfInBounds_toArray, List.set_cons_zero, List.set_cons_succ, List.getElem_toArray, List.getElem_cons_succ, List.getElem_cons_zero]
  refine wpAnyH_take (i := 11) rfl (by kernel_rfl) (by kernel_rfl) (by kernel_rfl) (fun _ _ _ h => h) (yieldsIf_row10 (by rfl) 23 _ (by rfl) w4.heap.size (by rfl) 23 (Hd.hv D) (0, 0) _ (fun _ h => h) Try.underlying23 rfl hih) (by assumption) ?_
  try simp only [Act.put, List.setIfInBounds_toArray, List.set_cons_zero, List.set_cons_succ, List.getElem_toArray, List.getElem_cons_succ, List.getElem_cons_zero]
  refine wpAnyH_ready (rs := [12]) (by kernel_rfl) (by simp) ?_
  refine AllReadyH.cons rfl (fun K hK => ?_) AllReadyH.nil
  go_simp
  refine (HSM.out _).mono ?_
  rintro e w6 ⟨rfl, hw6⟩
  have hb6 := hb5.trans (hdr5.trans hw6)
  have hH6 := hH5.keep (hdr5.trans hw6)
  refine hK.out _ _ (hH6) (fun hHeld => ?_)
  clear hK K
  try simp only [Act.put, List.setIfInBounds_toArray, List.set_cons_zero, List.set_cons_succ, List.getElem_toArray, List.getElem_cons_succ, List.getElem_cons_zero]
  refine wpAnyH_ready (rs := [13]) (by kernel_rfl) (by simp) ?_
  refine AllReadyH.cons rfl (fun K hK => ?_) AllReadyH.nil
  go_simp
  refine hK.out _ _ (hH6) (fun hHeld => ?_)
  clear hK K
  try simp only [Act.put, List.setIfInBounds_toArray, List.set_cons_zero, List.set_cons_succ, List.getElem_toArray, List.getElem_cons_succ, List.getElem_cons_zero]
  refine wpAnyH_take (i := 14) (v := ?_) rfl (by kernel_rfl) (by kernel_rfl) (by kernel_rfl) (fun _ _ _ h => h) (Or.inl ⟨by rfl, ?_⟩) (by assumption) ?_
  rotate_left
  · intro w hSw; (try dsimp only at hSw); go_simp; all_goals (with_reducible rfl)
  try simp only [Act.put, List.setIfInBounds_toArray, List.set_cons_zero, List.set_cons_succ, List.getElem_toArray, List.getElem_cons_succ, List.getElem_cons_zero]
  refine wpAnyH_take (i := 15) (v := ?_) rfl (by kernel_rfl) (by kernel_rfl) (by kernel_rfl) (fun _ _ _ h => h) (Or.inl ⟨by rfl, ?_⟩) (by assumption) ?_
  rotate_left
  · intro w hSw; (try dsimp only at hSw); go_simp; all_goals (with_reducible rfl)
  try simp only [Act.put, List.setIfInBounds_toArray, List.set_cons_zero, List.set_cons_succ, List.getElem_toArray, List.getElem_cons_succ, List.getElem_cons_zero]
  refine wpAnyH_done (by kernel_rfl) ?_ _
  go_wp2
  go_ret
  exact ⟨rfl, hb6⟩
end Go.Proofs.Ytkoacehgfmflmab

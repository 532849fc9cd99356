/- DigestTexts is true for every two digests: their texts have 64 digits, and are alike only if the digests are; the arguments stay as they were. (A tied card: the table k reads as the program's text lays it.) -/
import Derived.Test.YtcpapaceggnaoaaDoorEE
import Derived.Test.YtcpapaceggnaoaaDoorEE
import Derived.Test.YtcpapaceggnaoaaDoorCards
import Derived.Test.YtcpapaceggnaoaaDoorTie
import Derived.ShutString
import Derived.ChangeOld
import Derived.SevenTiedAt
namespace Go.Proofs.YtcpapaceggnaoaaDoor.digestTexts
open Go.ChangeShapes Go.WideShapes Go.ChangeAt Go.RowKit Go.Deep
set_option linter.unusedVariables false

/-- a whole row's load behind a guard that holds -/
theorem wpList_load_row_g {P : Program} {ops : Array Oper} {rest : List Oper} {o : Oper} {a : Act} {w : World} {Q : Exit → Act → World → Prop} (hgd : Region.wanted o (yielded ops a.tmps) = true) (ty : TypeId) (x : Operand) (ho : o.op = .load ty x)
    (g : Nat) (hx : a.eval x = .pointer (some ⟨g, 0, none⟩)) (t : TypeId) (cs : Array Value) (fr : Nat × Nat) (d : TypeDesc) (hg : w.heap[g]? = some (.cells cs t fr))
    (hu : P.underlying ty = some d) (hd : (match d with | .struct _ | .array _ _ => true | _ => false) = true) (hi : (P.info? ty).map (·.size) = some cs.size)
    (h : wpList P ops Q rest (a.put o.dst (.agg cs)) w) : wpList P ops Q (o :: rest) a w :=
  wpList_step fun _ hK => by rw [if_pos hgd]; exact wp_load_row ty x ho g hx t cs fr d hg hu hd hi (hK _ _ h)
theorem str_list (f : Nat → Int) (n : Nat) : (str f n).toList = (List.range n).map fun i => UInt8.ofNat (f i).toNat := by
  unfold str
  rw [nums_list, List.map_map]; rfl
theorem str_size (f : Nat → Int) (n : Nat) : (str f n).size = n := by
  have h : (str f n).toList.length = n := by rw [str_list]; simp
  rw [ByteArray.toList_eq] at h
  simpa using h
theorem str_get (f : Nat → Int) (n k : Nat) (hk : k < n) : (str f n)[k]? = some (UInt8.ofNat (f k).toNat) := by
  have h : (str f n).data.toList[k]? = some (UInt8.ofNat (f k).toNat) := by
    rw [← ByteArray.toList_eq, str_list, List.getElem?_map, List.getElem?_range hk]; rfl
  rw [Array.getElem?_toList] at h
  have hs : k < (str f n).size := by rw [str_size]; exact hk
  rw [getElem?_pos (str f n) k hs]
  rw [getElem?_pos (str f n).data k hs] at h
  exact h
theorem index_str {X : ByteArray} {f : Nat → Int} {n : Nat} (hX : X = str f n) (hf : ∀ i, 0 ≤ f i ∧ f i < 256) (k : Nat) (hk : k < n) (W : World) : (Instr.index 9 (.string X) (.int .i64 (k : Int))).run Tryd.prog W = .ok (.int .u8 (f k)) W := by
  have hb := str_get f n k hk
  rw [← hX] at hb
  have h := hf k
  simp [Instr.index, run_underlying Tryd.underlying9, asIntOf, hb]
  omega
theorem equalIn_bool (W : World) (d : Nat) (a b : Bool) : (Op.equalIn (d + 1) 4 (.bool a) (.bool b)).run Tryd.prog W = .ok (a == b) W := by
  simp [Op.equalIn, run_underlying Tryd.underlying4]
theorem eql_bool (W : World) (a b : Bool) : (binOp .eql 4 (.bool a) (.bool b)).run Tryd.prog W = .ok (.bool (a == b)) W := by
  have h : (Op.equal 4 (.bool a) (.bool b)).run Tryd.prog W = .ok (a == b) W := equalIn_bool W 9999 a b
  simp only [binOp]
  simp [h]
/-- a digit of a text: 0 to 9, a to f -/
theorem digit_is {d : Nat → Nat} (hd : ∀ i, d i < 256) (i : Nat) : (48 ≤ txtF d i ∧ txtF d i ≤ 57) ∨ (97 ≤ txtF d i ∧ txtF d i ≤ 102) := by
  have h := hd (i / 2)
  unfold txtF hexd
  by_cases e : i % 2 = 0
  · rw [if_pos e]; split <;> omega
  · rw [if_neg e]; split <;> omega
theorem hexd_inj {a b : Nat} (ha : a < 16) (hb : b < 16) (h : hexd a = hexd b) : a = b := by
  unfold hexd at h
  split at h <;> split at h <;> omega
theorem texts_iff {d e : Nat → Nat} (hd : ∀ i, d i < 256) (he : ∀ i, e i < 256) : ((str (txtF d) 64).toList == (str (txtF e) 64).toList) = same32 d e := by
  rw [Bool.eq_iff_iff, beq_iff_eq, same32_iff, str_inj (txtF_bd hd) (txtF_bd he)]
  constructor
  · rintro ⟨-, h⟩ i hi
    have h0 := h (2 * i) (by omega)
    have h1 := h (2 * i + 1) (by omega)
    unfold txtF at h0 h1
    rw [if_pos (by omega), if_pos (by omega), show 2 * i / 2 = i by omega] at h0
    rw [if_neg (by omega), if_neg (by omega), show (2 * i + 1) / 2 = i by omega] at h1
    have a := hd i
    have b := he i
    have q := hexd_inj (by omega) (by omega) (Int.ofNat_inj.1 h0)
    have r := hexd_inj (by omega) (by omega) (Int.ofNat_inj.1 h1)
    omega
  · intro h
    refine ⟨rfl, fun i hi => ?_⟩
    unfold txtF
    rw [h (i / 2) (by omega)]
set_option maxRecDepth 100000 in
set_option maxHeartbeats 4000000 in
theorem walk (T0 : Array Value) (g0 : Nat → Nat) (T1 : Array Value) (g1 : Nat → Nat) (w : World) (hk : KAt w) (w0 : In32 T0 g0) (w1 : In32 T1 g1) :
    Calls Tryd.prog 7 #[.agg T0, .agg T1] w fun e w' => e = .returned (.bool true) ∧ Below w.heap.size w w' := by
  have hg := guard32
  obtain ⟨W, hW⟩ : ∃ W, W = (w.alloc (.cells T0 23)).alloc (.cells T1 23) := ⟨_, rfl⟩
  have hal : ∀ (X : World) (o : Obj), Bw X (X.alloc o) := fun X o => (Below.refl _ _).alloc (Nat.le_refl _) _
  have hbW : Bw w W := by rw [hW]; exact (hal _ _).trans (hal _ _)
  have hB0 : W.heap[w.heap.size]? = some (.cells T0 23 (0, 0)) := by rw [hW]; exact heap_alloc2_old _ _ _
  have hB1 : W.heap[w.heap.size + 1]? = some (.cells T1 23 (0, 0)) := by rw [hW]; exact heap_alloc2_new _ _ _
  have hkW := hk.keep hbW
  have hi0 : (Tryd.prog.info? 23).map (·.size) = some T0.size := by rw [w0.size]; kernel_rfl
  have hi1 : (Tryd.prog.info? 23).map (·.size) = some T1.size := by rw [w1.size]; kernel_rfl
  obtain ⟨X, hX⟩ : ∃ X, Hid (X = str (txtF g0) 64) := ⟨_, rfl⟩
  obtain ⟨Y, hY⟩ : ∃ Y, Hid (Y = str (txtF g1) 64) := ⟨_, rfl⟩
  have hXs : X.size = 64 := by rw [hX.out]; exact str_size _ _
  have hYs : Y.size = 64 := by rw [hY.out]; exact str_size _ _
  have hXY : Hid ((X.toList == Y.toList) = same32 g0 g1) := by show _ = _; rw [hX.out, hY.out]; exact texts_iff w0.bd w1.bd
  have heq := equal32 w0 w1
  have hbb := eql_bool
  subst hW
  go_enter Tryd.func7, Tryd.ntmps7
  go_wp2_with (first
    | refine wpList_load_row rfl 23 _ rfl w.heap.size rfl 23 T0 (0, 0) _ hB0 Tryd.underlying23 rfl hi0 ?_
    | (go_at_call_of 12 T0; refine (ptext_any T0 g0 w0.bd w0.size w0.at_ _).mono ?_; rintro e w2 ⟨rfl, hw2⟩; rw [← hX.out])
    | refine wpList_load_row rfl 23 _ rfl (w.heap.size + 1) rfl 23 T1 (0, 0) _ ((hw2.block _ (Array.getElem?_eq_some_iff.1 hB1).1).trans hB1) Tryd.underlying23 rfl hi1 ?_
    | (go_at_call_of 12 T1; refine (ptext_any T1 g1 w1.bd w1.size w1.at_ _).mono ?_; rintro e w3 ⟨rfl, hw3⟩; rw [← hY.out]))
  have hb3 := hw2.trans hw3
  have hB03 := (hb3.block _ (Array.getElem?_eq_some_iff.1 hB0).1).trans hB0
  have hB13 := (hb3.block _ (Array.getElem?_eq_some_iff.1 hB1).1).trans hB1
  have hk3 := hkW.keep hb3
  have hbw3 := hbW.trans hb3
  clear hB0 hB1 hkW hb3 hw2 hw3 hbW hal
  go_loop [7] (fun i => ∃ k : Nat, k ≤ 64 ∧ i = .int .i64 k) (fun i => 64 - (intOf i).toNat)
  case atStart => exact ⟨0, Nat.zero_le _, rfl⟩
  case round =>
    obtain ⟨k, hk64, rfl⟩ := hrel
    by_cases hlt : k < 64
    · have hix := index_str hX.out (txtF_bd w0.bd) k hlt
      obtain ⟨z, hz⟩ : ∃ z, Hid (z = txtF g0 k) := ⟨_, rfl⟩
      rw [← hz.out] at hix
      have k0 : (0 : Int) ≤ (k : Int) := Int.natCast_nonneg _
      have k1 : (k : Int) < 64 := by omega
      have hdg := digit_is w0.bd k
      rw [← hz.out] at hdg
      rcases hdg with ⟨z0, z1⟩ | ⟨z0, z1⟩
      · have t1 : ¬ z < 48 := by omega
        have t2 : ¬ z > 57 := by omega
        have t2' : ¬ 57 < z := by omega
        clear heq
        go_wp2
        go_round
        case rel => exact ⟨k + 1, by omega, by go_num⟩
        case measure => simp [intOf]; omega
      · have t1 : ¬ z < 48 := by omega
        have t2 : z > 57 := by omega
        have t2' : 57 < z := by omega
        have t3 : ¬ z < 97 := by omega
        have t4 : ¬ z > 102 := by omega
        have t4' : ¬ 102 < z := by omega
        clear heq
        go_wp2
        go_round
        case rel => exact ⟨k + 1, by omega, by go_num⟩
        case measure => simp [intOf]; omega
    · have ek : k = 64 := by omega
      subst ek
      cases hsm : same32 g0 g1
      · rw [hsm] at hXY
        have hxy : (X.toList == Y.toList) = false := hXY.out
        have heq' : ∀ W', (Op.equalIn 10000 23 (.agg T0) (.agg T1)).run Tryd.prog W' = .ok false W' := fun W' => by rw [heq W', hsm]
        clear heq hXY
        go_wp2_with (first
          | refine wpList_load_row_g rfl 23 _ rfl w.heap.size rfl 23 T0 (0, 0) _ hB03 Tryd.underlying23 rfl hi0 ?_
          | refine wpList_load_row_g rfl 23 _ rfl (w.heap.size + 1) rfl 23 T1 (0, 0) _ hB13 Tryd.underlying23 rfl hi1 ?_
          | (go_at_call 9; refine (wakes_any _ hk3).mono ?_; rintro e w4 ⟨rfl, hw4⟩))
        go_ret
        exact ⟨rfl, hbw3.trans hw4⟩
      · rw [hsm] at hXY
        have hxy : (X.toList == Y.toList) = true := hXY.out
        have heq' : ∀ W', (Op.equalIn 10000 23 (.agg T0) (.agg T1)).run Tryd.prog W' = .ok true W' := fun W' => by rw [heq W', hsm]
        clear heq hXY
        go_wp2_with (first
          | refine wpList_load_row_g rfl 23 _ rfl w.heap.size rfl 23 T0 (0, 0) _ hB03 Tryd.underlying23 rfl hi0 ?_
          | refine wpList_load_row_g rfl 23 _ rfl (w.heap.size + 1) rfl 23 T1 (0, 0) _ hB13 Tryd.underlying23 rfl hi1 ?_
          | (go_at_call 9; refine (wakes_any _ hk3).mono ?_; rintro e w4 ⟨rfl, hw4⟩))
        go_ret
        exact ⟨rfl, hbw3.trans hw4⟩

set_option maxRecDepth 100000 in
theorem lifted (os : Os) (started : os.Started) (H : Type) (enc : TypeId × Value → H) :
    ReturnsInHanded {} Tryd.checked os 7 .any (fun w args => (Rows.digestTextsSpec.pre enc Tryd.prog Tryd.f7 [] false w args ∧ laidMetH Tryd.prog laidK w) ∧ sizedMet enc Tryd.prog Tryd.f7 (OpenSpec.ofChange Rows.digestTextsSpec) false w args)
      (Rows.digestTextsSpec.post enc Tryd.prog Tryd.f7 false true false false) := by
  refine returnsInHanded_of_change_and (C := Tryd.checked) (X := fun w _ => laidMetH Tryd.prog laidK w) (fun _ _ _ hh h => h.of_heap hh) own started (by kernel_rfl) Tryd.func7
    (ChangeSpec.witness_shaped (enc := enc) (C := Tryd.checked) (os := os) (X := fun w _ => laidMetH Tryd.prog laidK w) false (World.doorLaid Tryd.prog 400 os) #[.agg (Array.replicate 32 (.int .u8 0)), .agg (Array.replicate 32 (.int .u8 0))] 8 rfl (World.shaped_of_RefB (by kernel_rfl) (by kernel_rfl)) (by kernel_rfl) (by kernel_rfl) (by kernel_rfl) (door_met os _)) ?_
  intro W base args ds gs before hval0 hW hcnd hsz0 hL _
  have hval : ∀ (j : Nat) t v, Tryd.f7.params[j]? = some t → args[j]? = some v → Value.okWide Tryd.prog W .any base t v := hval0
  have hW' := hW
  obtain ⟨p, q, hA0, hV, rfl, hfz, hnd⟩ := hW
  have hA : DataW.TrodAll enc Tryd.prog W 0 (fun _ => true) true Tryd.f7.params.toList args.toList ds p := hA0
  have hsz : (DataW.weightsEach Tryd.prog (Tryd.f7.params.toList ++ Rows.digestTextsSpec.plain.varTypes Tryd.prog) (ds ++ gs)).all (· ≤ reachBytes) = true := hsz0
  have hkat := kat_of_laid hL
  rw [Tryd.params7] at hA hval hsz
  obtain ⟨v0, vs0, d0, ds0, p0, q0, hargs, rfl, rfl, h0, r0⟩ := trodAll_cons hA
  obtain ⟨v1, vs1, d1, ds1, p1, q1, rfl, rfl, rfl, h1, r1⟩ := trodAll_cons r0
  obtain ⟨rfl, rfl, rfl⟩ := trodAll_nil r1
  obtain rfl : args = #[v0, v1] := by cases args; simp_all
  obtain ⟨rfl, rfl⟩ := trodVars_none hV
  have k0 := h0
  have lt0 : ∀ x ∈ p0, x.block < W.heap.size := by obtain ⟨m, hm⟩ := k0; exact DataW.trod_lt m _ _ _ hm
  obtain ⟨T0, g0, rfl, w0⟩ := open_b32 (hval 0 23 v0 rfl rfl) h0
  have k1 := h1
  have lt1 : ∀ x ∈ p1, x.block < W.heap.size := by obtain ⟨m, hm⟩ := k1; exact DataW.trod_lt m _ _ _ hm
  obtain ⟨T1, g1, rfl, w1⟩ := open_b32 (hval 1 23 v1 rfl rfl) h1
  clear hA0 hval0
  refine (walk T0 g0 T1 g1 W hkat w0 w1).mono fun e W' ⟨he, bel⟩ => ?_
  subst he
  exact ⟨_, rfl, _, _, _, [], _, [], hW', trodAll_mk1 (shut_bool Tryd.underlying4 _), (trodAll_cons_mk (Below.trod laidOut (by kernel_rfl) (of_decide_eq_true (by kernel_rfl)) k0 bel lt0) (trodAll_cons_mk (Below.trod laidOut (by kernel_rfl) (of_decide_eq_true (by kernel_rfl)) k1 bel lt1) trodAll_mk0)), rfl, bel.frame _, fun h => by cases h⟩

theorem over : Rows.digestTextsRow.holds Tryd.pinned (OpenSpec.ofChange Rows.digestTextsSpec) :=
  OpenClaim.holds_of_wide 7 Tryd.f7 rfl rfl rfl rfl rfl rfl rfl ⟨rfl, rfl, rfl, rfl, rfl⟩ rfl rfl rfl rfl rfl (by kernel_rfl) Tryd.func7 (by kernel_rfl)
    (of_decide_eq_true (by kernel_rfl)) (by unfold Func.isWrapper; first | (rw [if_pos (by decide +kernel)]; kernel_rfl) | (rw [if_neg (by decide +kernel)]; exact ⟨rfl, rfl⟩))
    (fun os started H enc _ => lifted os started H enc)

theorem proved : Rows.DigestTextsCardSaid :=
  Claim7.holds_tied_plain_at .later [] [.data] true (true, "dfd591aa29c56175f19a07ad5d69340116d5ff8aa6883449b7bcc9a4d873338d") false
    over (fun _ h => by cases h) (by kernel_rfl) (fun _ h => by cases h) digestTexts_row_tie rfl ⟨rfl, rfl⟩ (by kernel_rfl) rfl
    (fun f fn hf hfn => by
      obtain rfl : f = 7 := Option.some.inj ((show Tryd.prog.funcNamed "tabulary/tabularylaw05.DigestTexts" = some 7 by kernel_rfl).symm.trans hf) |>.symm
      obtain rfl : fn = Tryd.f7 := (Option.some.inj (Tryd.func7.symm.trans hfn)).symm
      exact ⟨by kernel_rfl, fun j t ht => by
        rw [Tryd.params7] at ht
        have hm : t ∈ [23, 23] := by simpa using Array.mem_of_getElem? ht
        have hall : ([23, 23].all fun u => !Tryd.prog.wantsStandIn u) = true := by kernel_rfl
        exact (show Tryd.prog.wantsStandIn t = false by simpa using List.all_eq_true.1 hall t hm)⟩)
    (by kernel_rfl)
#print axioms proved
end Go.Proofs.YtcpapaceggnaoaaDoor.digestTexts

/- Proved: for every list of texts the statement NameJoins answers true (the document's P8.2: every Join; what is handed in stays, the spare room too), where what comes in is of bulk at most 1048576. -/
import Derived.Test.YtpkdnockbbppiaaNS
import Derived.BigRegion
import Derived.Test.YtpkdnockbbppiaaFs
import Derived.ShutString
import Derived.ChangeOld
import Derived.JoinedCond
import Derived.Deep.CondSized
namespace Go.Proofs.Ytpkdnockbbppiaa.nameJoins
open Go.ChangeShapes Go.WideShapes Go.ChangeAt Go.RowKit
set_option linter.unusedVariables false

set_option linter.unusedSimpArgs false
/-- the cells of a list of texts -/
def cellsT (T : Nat → ByteArray) (n : Nat) : List Value := (List.range n).map fun i => .string (T i)
theorem cellsT_len (T : Nat → ByteArray) (n : Nat) : (cellsT T n).length = n := by unfold cellsT; simp
theorem cellsT_get (T : Nat → ByteArray) (n j : Nat) (u : Value) (h : (cellsT T n)[j]? = some u) : j < n ∧ u = .string (T j) := by
  have hj : j < n := by have := (List.getElem?_eq_some_iff.1 h).1; rwa [cellsT_len] at this
  refine ⟨hj, ?_⟩
  unfold cellsT at h
  rw [List.getElem?_map, List.getElem?_range hj] at h
  exact (Option.some.inj h).symm
/-- a list of texts in memory appended to a row of the call's own -/
theorem wpList_append_texts {P : Program} (w : World) {ops : Array Oper} {rest : List Oper} {o : Oper} {a : Act} {Q : Exit → Act → World → Prop} (hgd : o.guard = none) (s x : Operand) (t : TypeId)
    (ho : o.op = .call { callee := .builtin .append, args := #[s, x], argTypes := #[t, t] })
    (base : Nat) (e : TypeId) (i : TypeInfo) (z : Value) (bytes : Nat) (ht : P.underlying t = some (.slice e)) (hi : P.info? e = some i) (hz : i.zero = some z)
    (hsize : i.size = 1) (hby : i.bytes = bytes) (hzs : z.cells.size = 1)
    (v : Value) (n : Nat) (xs : List Value) (hs : a.eval s = v) (hown : w.ownsRow base e 1 v n xs)
    (A : Option Addr) (L C : Nat) (T : Nat → ByteArray) (hx : a.eval x = .slice A L C) (hr : StrsAt w A L T) (hC : A = none → C = 0)
    (h63 : n + L ≤ maxLen) (hbytes : (n + L) * bytes ≤ 140737488355328) (hbase : base ≤ w.heap.size)
    (h : ∀ v' w', w'.ownsRow base e 1 v' (n + L) (xs ++ cellsT T L) → w.grownBy w' v.ownBlock → wpList P ops Q rest (a.put o.dst v') w') : wpList P ops Q (o :: rest) a w := by
  cases A with
  | some ad =>
    refine wpList_append_own w hgd s x t ho base e i z 1 bytes ht hi hz hsize hby hzs (by decide) v n xs hs hown ad L C (cellsT T L) hx (by rw [cellsT_len, Nat.mul_one]) (fun j u hu => ?_) (fun u hu => by unfold cellsT at hu; obtain ⟨k, _, rfl⟩ := List.mem_map.1 hu; rfl) h63 hbytes hbase (fun v' w' h1 h2 _ => h v' w' h1 h2)
    obtain ⟨hj, rfl⟩ := cellsT_get T L j u hu
    obtain ⟨b, off, e', hc⟩ := hr.at hj
    cases e'
    have hadd : (⟨b, off, none⟩ : Addr).add j = ⟨b, off + j, none⟩ := by rw [Addr.add_lit]
    rw [hadd]; exact hc j hj
  | none =>
    have hL : L = 0 := by
      rcases hr with h0 | ⟨b, off, e', _⟩
      · exact h0
      · cases e'
    subst hL
    obtain rfl := hC rfl
    refine wpList_plain hgd fun K hK' => ?_
    have hrun := run_append_owned_none (P := P) w base t o.type e i 1 ht hi v n xs hown
    unfold Oper.wp
    simp [execOp, ho, resolve, invoke, builtin, hs, hx, hrun, Result.andThen]
    exact hK' _ _ (h v w (by simpa [cellsT] using hown) (World.grownBy.refl _ _))
theorem texts_own {W : World} {b g n cap : Nat} {T : Nat → ByteArray} {u : Value} (h : W.ownsRow b 9 1 (.slice (some ⟨g, 0, none⟩) (n + 1) cap) (n + 1) (cellsT T n ++ [u])) : (∀ i, i < n → W.cell? ⟨g, i, none⟩ = some (.string (T i))) ∧ W.cell? ⟨g, n, none⟩ = some u ∧ n + 1 ≤ cap := by
  rcases h.2 with ⟨h0, _⟩ | ⟨g', cap', cur, hv, hg, hc, k1, k2, k3, k4⟩
  · cases h0
  · cases hv
    have e : ∀ i, i < n + 1 → cur[i]? = (cellsT T n ++ [u])[i]? := fun i hi => by rw [← k4, Nat.mul_one, List.getElem?_take, if_pos hi, Array.getElem?_toList]
    refine ⟨fun i hi => ?_, ?_, k1⟩
    · rw [cell_of_row W g i cur _ _ hc, e i (by omega), List.getElem?_append_left (by rw [cellsT_len]; exact hi)]
      unfold cellsT
      rw [List.getElem?_map, List.getElem?_range hi]; rfl
    · rw [cell_of_row W g n cur _ _ hc, e n (by omega), List.getElem?_append_right (by rw [cellsT_len]; exact Nat.le_refl _), cellsT_len, Nat.sub_self]; rfl
theorem walk (a0 : Option Addr) (len0 cap0 : Nat) (T0 : Nat → ByteArray) (w : World) (w0 : InStrs w a0 len0 cap0 T0) :
    Calls Try.prog 4 #[.slice a0 len0 cap0] w fun e w' => e = .returned (.bool true) ∧ Below w.heap.size w w' := by
  obtain ⟨i0, hi0, hz0, hz1, hz2⟩ := info_parts info_str
  obtain ⟨js, je, hj⟩ : ∃ a b, Hid (Nm.joinE (partsL T0 len0) = (a, b)) := ⟨(Nm.joinE (partsL T0 len0)).1, (Nm.joinE (partsL T0 len0)).2, show Nm.joinE (partsL T0 len0) = _ from rfl⟩
  obtain ⟨J, hJ⟩ : ∃ J, Hid (J = Nm.S js) := ⟨_, rfl⟩
  have hle := w0.le
  have hroom := w0.room
  have HSUM : Hid ((Nm.joined (partsL T0 len0)).length ≤ 4611686018427387904) := by
    show _ ≤ _
    have h1 := w0.all
    by_cases hn : partsL T0 len0 = []
    · rw [hn]; exact Nat.zero_le _
    · have := Nm.tot_joined _ hn; omega
  have HSUM2 : Hid ((Nm.joined (partsL T0 len0)).length ≤ 1048577) := by
    show _ ≤ _
    have h1 := w0.all
    by_cases hn : partsL T0 len0 = []
    · rw [hn]; exact Nat.zero_le _
    · have := Nm.tot_joined _ hn; omega
  have HEA : Hid (∀ i, i < len0 → (T0 i).size ≤ 1099511627776) := fun i _ => by have := w0.each i; omega
  have l0 : (0 : Int) ≤ (len0 : Int) := Int.natCast_nonneg _
  go_enter Try.func4, Try.ntmps4
  go_wp2_with (first
    | (at_builtin; refine wpList_append_texts _ (by rfl) (.tmp 9) (.tmp 10) _ (by rfl) w.heap.size 9 i0 _ 16 Try.underlying29 hi0 hz0 hz1 hz2 rfl _ _ _ (by rfl) (World.ownsRow_nil w _ _ _) a0 len0 cap0 T0 (by rfl) w0.strs w0.nil (by unfold maxLen; omega) (by omega) (Nat.le_refl _) ?_; intro v1 w1 hown1 hgrow1; simp only [Nat.zero_add, List.nil_append] at hown1; have bw1 : Bw w w1 := (Below.refl _ _).grown hgrow1 (Nat.le_refl _) (fun k hk => by simp [Value.ownBlock] at hk); have sz1 := bw1.size)
    | (at_builtin; refine wpList_append_lies _ (by rfl) (.tmp 12) (.tmp 13) _ (by rfl) w.heap.size 9 i0 _ 1 16 Try.underlying29 hi0 hz0 hz1 hz2 rfl (by omega) _ _ _ (by rfl) (hown1.alloc _) ⟨w1.heap.size, 0, none⟩ 1 1 [_] (by rfl) (by rfl) (World.news_of_block (cs := #[_]) (t := 9) (fr := (0, 0)) (heap_alloc_new w1 _)) (by simp [Value.oneCell']) (by omega) (by unfold maxLen; omega) (by omega) (by simp; omega) (w1.heap.size + 1) (by simp) ?_; intro g3 c3 w3 hown3 hgrow3 hat3 hlt3; have bw3 : Bw w w3 := bw_grow hgrow3 (Below.alloc bw1 sz1 _) (by rw [size_alloc]; omega) (hown1.alloc _); obtain ⟨hT3, hm3, hcap3⟩ := texts_own hown3; have hcap3' : (len0 : Int) ≤ (c3 : Int) := (by omega); have hst3 : StrsAt w3 (some ⟨g3, 0, none⟩) len0 T0 := Or.inr ⟨g3, 0, rfl, fun i hi => by rw [Nat.zero_add]; exact hT3 i hi⟩; have HT3 : Hid (∀ i, i < len0 → w3.cell? ⟨g3, i, none⟩ = some (.string (T0 i))) := hT3; have HM3 : Hid (w3.cell? ⟨g3, len0, none⟩ = some (.string ⟨#[109, 97, 114, 107]⟩)) := hm3; clear hT3 hm3)
    | (go_at_call 13; refine (njoin_any (some ⟨g3, 0, none⟩) len0 c3 T0 (by omega) (by omega) (Nat.le_trans HSUM2.out (by decide)) _ hst3).mono ?_; rintro e w4 ⟨rfl, hw4⟩; rw [hj.out, ← hJ.out])
    | (go_at_call 14; refine (rjoin_any a0 len0 cap0 T0 (by omega) HEA.out HSUM.out _ ((w0.strs.keep bw3).keep hw4)).mono ?_; rintro e w5 ⟨rfl, hw5⟩; rw [hj.out, ← hJ.out]))
  have hb35 : Bw w3 w5 := hw4.trans hw5
  have hb05 : Bw w w5 := bw3.trans hb35
  have HC : Hid (∀ W, Bw w5 W → (∀ i, i < len0 → W.cell? ⟨g3, i, none⟩ = some (.string (T0 i))) ∧ W.cell? ⟨g3, len0, none⟩ = some (.string ⟨#[109, 97, 114, 107]⟩) ∧ StrsAt W a0 len0 T0) := fun W hW => by
    have h3 := hb35.trans hW
    refine ⟨fun i hi => ?_, ?_, w0.strs.keep (bw3.trans h3)⟩
    · have := HT3.out i hi
      rw [h3.cell (p := ⟨g3, i, none⟩) (block_lt_of_cell this)]; exact this
    · have := HM3.out
      rw [h3.cell (p := ⟨g3, len0, none⟩) (block_lt_of_cell this)]; exact this
  clear HT3 HM3 hst3 hown3 hgrow3 hat3 hlt3 hown1 hgrow1 bw1 sz1 hw4 hw5 bw3 hb35 HSUM HEA w0
  go_loopw [2, 8] (fun r i wr => ∃ (k q : Nat), k ≤ len0 ∧ r = .bool false ∧ i = .int .i64 (k : Int) ∧ Hid (wr = w5.drewN q)) (fun _ i _ => len0 - (intOf i).toNat)
  case atStart => exact ⟨0, 0, Nat.zero_le _, rfl, rfl, rfl⟩
  case round =>
    obtain ⟨k, q, hk, rfl, rfl, hq⟩ := hrel
    have k0 : (0 : Int) ≤ (k : Int) := Int.natCast_nonneg _
    have HBW : Hid (Bw w5 wr) := by show Bw w5 wr; rw [hq.out]; exact Bw.drewN w5 q
    obtain ⟨h1, h2, h3⟩ := HC.out _ HBW.out
    by_cases hlt : k < len0
    · have t1 : (k : Int) < (len0 : Int) := by omega
      have t2 : (k : Int) < (len0 : Int) + 1 := by omega
      have x1 := h1 k hlt
      obtain ⟨b1, o1, rfl, hc1⟩ := h3.at hlt
      have x2 := hc1 k hlt
      have hq4 : Hid (∀ nq, wr.drewN nq = w5.drewN (q + nq)) := fun nq => by rw [hq.out, drewN_add8]
      have ee : ((T0 k).toList == (T0 k).toList) = true := by rw [beq_iff_eq]
      clear hc1 h1 h2 h3
      go_wp2
      go_quiet (fail)
      go_wp2
      go_roundw
      case rel => exact ⟨k + 1, _, by omega, rfl, by go_num, hq4.out _⟩
      case measure => simp [intOf]; omega
    · have ek : k = len0 := by omega
      subst ek
      have t1 : ¬ (k : Int) < (k : Int) := by omega
      have t2 : (k : Int) < (k : Int) + 1 := by omega
      clear h1 h3
      go_wp2
      go_ret
      exact ⟨rfl, hb05.trans HBW.out⟩

set_option maxRecDepth 100000 in
theorem lifted (os : Os) (started : os.Started) (H : Type) (enc : TypeId × Value → H) (F : Stop.Interp) :
    ReturnsInHanded {} Try.checked os 4 .any ((Rows.OpenSpec.upto Rows.nameJoinsSpec).pre6 enc Try.prog Try.f4 Rows.nameJoinsUptoRow.domain false) (((Rows.OpenSpec.upto Rows.nameJoinsSpec).at F).post enc Try.prog Try.f4 false true false false) := by
  refine returnsInHanded_of_cond_sized (C := Try.checked) (s := Rows.OpenSpec.upto Rows.nameJoinsSpec) (k := Rows.uptoSmall) rfl own started (by kernel_rfl) Try.func4
    (OpenSpec.witness (enc := enc) (C := Try.checked) (s := Rows.OpenSpec.upto Rows.nameJoinsSpec) (k := Rows.uptoSmall) rfl false ⟨#[], #[.slice none 0 0], []⟩ 8 (by kernel_rfl) (by kernel_rfl) (by kernel_rfl) (x := ([.nil], [], [])) (by kernel_rfl) rfl (by kernel_rfl)) ?_
  intro W base args ds gs before hval0 hW hcnd hk0 hsz0 _
  have hval : ∀ (j : Nat) t v, Try.f4.params[j]? = some t → args[j]? = some v → Value.okWide Try.prog W .any base t v := hval0
  have hW1 : DataW.Whole enc Try.prog Try.f4.params.toList Rows.nameJoinsSpec.vars false W args.toList ds gs before := hW
  have hW' := hW1
  obtain ⟨p, q, hA0, hV, rfl, hfz, hnd⟩ := hW1
  have hA : DataW.TrodAll enc Try.prog W 0 (fun _ => true) true Try.f4.params.toList args.toList ds p := hA0
  have hsz : (DataW.weightsEach Try.prog (Try.f4.params.toList ++ Rows.nameJoinsSpec.plain.varTypes Try.prog) (ds ++ gs)).all (· ≤ reachBytes) = true := hsz0
  rw [Try.params4] at hA hval hsz
  obtain ⟨v0, vs0, d0, ds0, p0, q0, hargs, rfl, rfl, h0, r0⟩ := trodAll_cons hA
  obtain ⟨rfl, rfl, rfl⟩ := trodAll_nil r0
  obtain rfl : args = #[v0] := by cases args; simp_all
  obtain ⟨rfl, rfl⟩ := trodVars_none hV
  have hk := hk0
  simp only [List.append_nil] at hk
  obtain ⟨a0, len0, cap0, rfl⟩ := okWide_slice Try.underlying29 (hval 0 29 v0 rfl rfl)
  have k0 := h0
  have lt0 : ∀ x ∈ p0, x.block < W.heap.size := by obtain ⟨m, hm⟩ := k0; exact DataW.trod_lt m _ _ _ hm
  obtain ⟨T0, w0⟩ := open_texts (d := d0) h0 (by simp) hk
  clear hA0 hval0
  refine (walk a0 len0 cap0 T0 W w0).mono fun e W' ⟨he, bel⟩ => ?_
  subst he
  refine ⟨_, rfl, ?_⟩
  show Rows.nameJoinsSpec.post enc Try.prog Try.f4 false true false false _ _ _ _
  exact ⟨_, _, _, [], _, [], hW', trodAll_mk1 (shut_bool Try.underlying4 _), (trodAll_cons_mk (Below.trod laidOut (by kernel_rfl) (of_decide_eq_true (by kernel_rfl)) k0 bel lt0) trodAll_mk0), rfl, bel.frame _, fun h => by cases h⟩

theorem proved : Rows.NameJoinsUptoSaid :=
  OpenClaim.holds_of_cond 4 Try.f4 rfl rfl rfl rfl rfl rfl rfl ⟨rfl, rfl, rfl, rfl, rfl⟩ rfl rfl rfl rfl rfl (by kernel_rfl) Try.func4 (by kernel_rfl)
    (of_decide_eq_true (by kernel_rfl)) (by unfold Func.isWrapper; first | (rw [if_pos (by decide +kernel)]; kernel_rfl) | (rw [if_neg (by decide +kernel)]; exact ⟨rfl, rfl⟩))
    (fun os started H enc _ F => lifted os started H enc F)
#print axioms proved
end Go.Proofs.Ytpkdnockbbppiaa.nameJoins

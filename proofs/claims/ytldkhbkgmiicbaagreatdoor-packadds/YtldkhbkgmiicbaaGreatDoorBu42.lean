/- Texts of mine, put together. -/
import Derived.Test.YtldkhbkgmiicbaaGreatDoorBu22
import Derived.Test.YtldkhbkgmiicbaaGreatDoorBu26
import Derived.Test.YtldkhbkgmiicbaaGreatDoorBu24
import Derived.Test.YtldkhbkgmiicbaaGreatDoorBu19
import Derived.Lib.AppendZeros
import Derived.Lib.AppendStr
import Derived.Deep.CutRange

/- Layer 12: the document's own Filled and typed. -/
namespace Go.Proofs.YtldkhbkgmiicbaaGreatDoor
open Go.RowKit Go.Deep
set_option linter.unusedVariables false
set_option linter.unusedSimpArgs false

theorem zeroCells_u8 (m : Nat) : Builtin.zeroCells #[.int .u8 0] m = (List.replicate m (Value.int .u8 0)).toArray := by
  unfold Builtin.zeroCells
  apply Array.ext
  · simp
  · intro i h1 h2
    simp [Nat.mod_one]
theorem byteCells_zeros (m : Nat) : Lib.byteCells (List.replicate m 0) = List.replicate m (Value.int .u8 0) := by
  unfold Lib.byteCells; rw [List.map_replicate]; rfl
theorem byteCells_app12 (a b : Pk.B) : Lib.byteCells (a ++ b) = Lib.byteCells a ++ Lib.byteCells b := by simp [Lib.byteCells]
/-- noughts behind a row of bytes -/
theorem run_append_noughts (w : World) (base : Nat) (v : Value) (n : Nat) (xs : List Value) (hown : w.ownsRow base 5 1 v n xs) (m : Nat) (h0 : 0 < m) (hb : n + m ≤ 1048576) (hbase : base ≤ w.heap.size) (ty : TypeId) :
    ∃ v' w', (Builtin.append_ #[24, 3] ty #[v, .int .i64 (m : Int)]).run Tryz.prog w = .ok v' w' ∧ w'.ownsRow base 5 1 v' (n + m) (xs ++ List.replicate m (.int .u8 0)) ∧ w.grownBy w' v.ownBlock := by
  obtain ⟨i, hi, hz, hs1, hs2⟩ := info_parts info_u8
  have ht := Tryz.underlying24
  have htn := Tryz.underlying3
  have hn : m ≠ 0 := by omega
  have hw : IntKind.i64.wrap (m : Int) = m := by rw [IntKind.wrap_i64]; omega
  have hneg : ¬ ((m : Int) < 0) := by omega
  have h48i : ¬ (281474976710656 < (m : Int)) := by omega
  have hlen : (xs ++ List.replicate m (Value.int .u8 0)).length = (n + m) * 1 := by rw [List.length_append, hown.1, List.length_replicate]; omega
  have grown : ∀ (old : Nat) (row : Option Nat),
      (w.drew.alloc (.cells (xs.toArray ++ (List.replicate m (Value.int .u8 0)).toArray ++ Builtin.zeroCells #[.int .u8 0] (grownCap w (n + m) old 5 - (n + m))) 5)).ownsRow base 5 1
        (.slice (some ⟨w.heap.size, 0, none⟩) (n + m) (grownCap w (n + m) old 5)) (n + m) (xs ++ List.replicate m (.int .u8 0)) ∧
      w.grownBy (w.drew.alloc (.cells (xs.toArray ++ (List.replicate m (Value.int .u8 0)).toArray ++ Builtin.zeroCells #[.int .u8 0] (grownCap w (n + m) old 5 - (n + m))) 5)) row := by
    intro old row
    have hge := grownCap_ge w (n + m) old 5
    have hcm : grownCap w (n + m) old 5 ≤ maxLen := grownCap_le_maxLen w (n + m) old 5 (by unfold maxLen; omega)
    refine ⟨⟨hlen, .inr ⟨w.heap.size, _, _, rfl, hbase, heap_alloc_new w.drew _, hge, hcm, ?_, ?_⟩⟩, ⟨rfl, rfl, rfl, by simp, fun k hk _ => heap_alloc_old w.drew _ hk⟩⟩
    · rw [zeroCells_u8]
      simp only [Array.size_append, List.size_toArray, hown.1, List.length_replicate]
      omega
    · rw [Array.toList_append, ← hlen, Array.toList_append]
      exact List.take_left
  rcases hown.2 with ⟨rfl, rfl⟩ | ⟨g, cap, cur, rfl, hbg, hcg, hnc, hcm, hcs, htake⟩
  · have hx : xs = [] := List.eq_nil_of_length_eq_zero (by simpa using hown.1)
    subst hx
    have hr := Lib.run_append_nil_zeros (P := Tryz.prog) w 24 3 ty 5 i _ .i64 .i64 ht htn hi hz m h0 (by omega) (by omega) (by rw [hs2]; omega)
    have hgr := grown 0 (Value.ownBlock (.slice none 0 0))
    refine ⟨_, _, hr, ?_⟩
    simp only [Nat.zero_add, List.nil_append, Array.empty_append] at hgr ⊢
    rw [show (Value.int .u8 0).cells = #[.int .u8 0] from rfl, zeroCells_u8 m]
    exact hgr
  · by_cases hroom : n + m ≤ cap
    · have hst := run_storeCells_at Tryz.prog g (n * 1) 5 (List.replicate m (Value.int .u8 0)) 0 cur w hcg (by simp; omega) (fun u hu => by rw [List.mem_replicate] at hu; rw [hu.2]; rfl)
      simp only [Nat.add_zero, Nat.mul_one, List.length_replicate] at hst
      refine ⟨.slice (some ⟨g, 0, none⟩) (n + m) cap, w.setRow g (cur.toList.take n ++ List.replicate m (Value.int .u8 0) ++ cur.toList.drop (n + m)).toArray, ?_, ⟨hlen, .inr ⟨g, cap, _, rfl, hbg, setRow_heap w g cur _ _ _ hcg, hroom, hcm, ?_, ?_⟩⟩, ⟨rfl, rfl, rfl, by simp, fun k _ hk => setRow_other w g k _ (fun e => hk (by simp [Value.ownBlock, e]))⟩⟩
      · simp [Builtin.append_, run_underlying ht, run_underlying htn, sizeOf, typeInfo, zeroValue, hi, hz, hs1, hs2, asInt, asIntOf, hw, hn, hneg, h48i, hroom, Addr.add_lit, show (Value.int .u8 0).cells = #[.int .u8 0] from rfl, zeroCells_u8, hst]
      · simp only [List.size_toArray, List.length_append, List.length_take, List.length_drop, Array.length_toList, List.length_replicate]
        omega
      · rw [Nat.mul_one] at htake
        rw [htake, ← hlen]
        exact List.take_left
    · have holds : ∀ j u, xs[j]? = some u → w.drew.cell? ((⟨g, 0, none⟩ : Addr).add j) = some u := fun j u hu => hown.cells (g := g) rfl j u hu
      have hf := run_firstCells_some (P := Tryz.prog) w.drew 1 n ⟨g, 0, none⟩ n cap xs hown.1 holds
      have h63' : ¬ (9223372036854775807 < ((n : Int) + (m : Int))) := by omega
      have h48' : ¬ (281474976710656 < Builtin.nextslicecap (n + m) cap) := by
        have := growslice_fits (need := n + m) (old := cap) (bytes := 1) (by omega) (by omega)
        omega
      have hgr := grown cap (Value.ownBlock (.slice (some ⟨g, 0, none⟩) n cap))
      refine ⟨_, _, ?_, hgr⟩
      simp [Builtin.append_, run_underlying ht, run_underlying htn, sizeOf, typeInfo, zeroValue, hi, hz, hs1, hs2, asInt, asIntOf, hw, hn, hneg, h48i, hroom, h63', h48', Question.forced, hf, newRow, grownCap, show (Value.int .u8 0).cells = #[.int .u8 0] from rfl, zeroCells_u8]
theorem own_slice12 {W : World} {base : Nat} {e : TypeId} {s n : Nat} {v : Value} {xs : List Value} (h : W.ownsRow base e s v n xs) : ∃ A c, v = .slice A n c := by
  rcases h.2 with ⟨rfl, rfl⟩ | ⟨g, cap, cur, rfl, _⟩
  · exact ⟨_, _, rfl⟩
  · exact ⟨_, _, rfl⟩
theorem gap_not {n k : Nat} (h : k < Pk.gap n) : (n + k) % 512 ≠ 0 := by unfold Pk.gap at h; omega
theorem bw_grow12 {w wr w' : World} {e : TypeId} {s n : Nat} {v : Value} {xs : List Value} (h : Bw w wr) (hg : wr.grownBy w' v.ownBlock) (ho : wr.ownsRow w.heap.size e s v n xs) : Bw w w' := by
  have := bw_grow hg (base := w.heap.size) h h.size ho
  exact this
set_option maxRecDepth 100000 in
set_option maxHeartbeats 2000000 in
theorem rfilled_any (A : Option Addr) (n c : Nat) (r : Pk.B) (hr : r.length = n) (hn : n ≤ 524288) (hc : A = none → c = 0) (w : World) (hrow : RowAt w A n (Hd.rowF r)) :
    Calls Tryz.prog 52 #[.slice A n c] w fun e w' => (∃ u, e = .returned u ∧ w'.ownsRow w.heap.size 5 1 u (Pk.fill r).length (Lib.byteCells (Pk.fill r))) ∧ Bw w w' := by
  obtain ⟨i0, hi0, hz0, hz1, hz2⟩ := info_parts info_u8
  have HL : Hid (r.length = n) := hr
  have hgl := Pk.gap_lt n
  have HF : Hid (Pk.fill r = r ++ List.replicate (Pk.gap n) 0) := by show _ = _; unfold Pk.fill; rw [HL.out]
  obtain ⟨G, hG⟩ : ∃ G, Hid (Pk.gap n = G) := ⟨_, rfl⟩
  rw [hG.out] at hgl HF
  rw [HF.out]
  have HN : Hid (∀ k, k < G → (n + k) % 512 ≠ 0) := fun k hk => gap_not (by rw [hG.out]; exact hk)
  have HZ : Hid ((n + G) % 512 = 0) := by rw [← hG.out]; exact Pk.gap_add n
  clear hr
  go_enter Tryz.func52, Tryz.ntmps52
  go_wp2_with (at_builtin; go_loud (refine wpList_append_rowat _ (by rfl) (.tmp 4) (.tmp 5) _ (by rfl) w.heap.size 5 i0 _ 1 Tryz.underlying24 hi0 hz0 hz1 hz2 rfl _ _ _ (by rfl) (World.ownsRow_nil w _ _ _) A n c (Hd.rowF r) (by rfl) hrow hc (by unfold maxLen; omega) (by omega) (Nat.le_refl _) ?_; intro v1 w1 ho1 hg1; have hb1 : Bw w w1 := bw_grow12 (Bw.refl _) hg1 (World.ownsRow_nil w w.heap.size 5 1); rw [Nat.zero_add, List.nil_append] at ho1; have hcr := Hd.cells_row r; rw [HL.out] at hcr; rw [hcr] at ho1; clear hcr; obtain ⟨A1, c1, rfl⟩ := own_slice12 ho1))
  go_loopg [3] G (fun gk s wr => ∃ A' c' k, s = .slice A' (n + k) c' ∧ k + gk = G ∧ Hid (wr.ownsRow w.heap.size 5 1 (.slice A' (n + k) c') (n + k) (Lib.byteCells (r ++ List.replicate k 0))) ∧ Bw w wr)
  case atStart => exact ⟨A1, c1, 0, rfl, Nat.zero_add _, by rw [List.replicate_zero, List.append_nil]; exact ho1, hb1⟩
  case round =>
    obtain ⟨A', c', k, rfl, hk, hown, hbw⟩ := hrel
    cases gk with
    | zero =>
      obtain rfl : k = G := by omega
      have hz : (((n : Int) + (k : Int)) % 512 != 0) = false := by rw [bne_eq_false_iff_eq]; have := HZ.out; omega
      go_wp2
      go_ret
      refine ⟨⟨_, rfl, ?_⟩, hbw⟩
      rw [List.length_append, List.length_replicate, HL.out]
      exact hown.out
    | succ g =>
      have hz : (((n : Int) + (k : Int)) % 512 != 0) = true := by rw [bne_iff_ne]; have := HN.out k (by omega); omega
      have hb2 : Bw wr (wr.alloc (.cells #[.int .u8 0] 5)) := bw_alloc7 (Bw.refl _) _
      have HC : Hid (Lib.byteCells (r ++ List.replicate (k + 1) 0) = Lib.byteCells (r ++ List.replicate k 0) ++ [.int .u8 0]) := by
        show _ = _
        rw [List.replicate_succ', ← List.append_assoc, byteCells_app12 (r ++ List.replicate k 0)]
        rfl
      go_wp2_with (at_builtin; refine wpList_append_own _ (by rfl) (.tmp 11) (.tmp 12) _ (by rfl) w.heap.size 5 i0 _ 1 1 Tryz.underlying24 hi0 hz0 hz1 hz2 rfl (by decide) _ (n + k) _ (by rfl) (own_keep hown.out hb2) ⟨wr.heap.size, 0, none⟩ 1 1 [.int .u8 0] (by rfl) rfl (World.news_of_block (cs := #[_]) (heap_alloc_new _ _)) (by simp [Value.oneCell']) (by unfold maxLen; omega) (by omega) (Nat.le_trans hbw.size hb2.size) ?_; intro v2 w2 ho2 hg2 _; have hb3 : Bw w w2 := bw_grow12 (hbw.trans hb2) hg2 (own_keep hown.out hb2); rw [← HC.out] at ho2; obtain ⟨A2, c2, rfl⟩ := own_slice12 ho2)
      go_roundg g
      case measure => omega
      case rel => exact ⟨A2, c2, k + 1, rfl, by omega, ho2, hb3⟩
set_option maxRecDepth 100000 in
theorem rtyped_any (k : Nat) (hk : k < 256) (w : World) : Calls Tryz.prog 53 #[.int .u8 (k : Int)] w fun e w' => e = .returned (.int .u8 ((Pk.typ k).toNat : Int)) ∧ w' = w := by
  unfold Pk.typ
  by_cases h3 : k = 3
  · subst h3
    go_enter Tryz.func53, Tryz.ntmps53
    go_wp2
    go_ret
    exact ⟨rfl, rfl⟩
  · have e3 : ((k : Int) == 3) = false := by rw [beq_eq_false_iff_ne]; omega
    by_cases h4 : k = 4
    · subst h4
      go_enter Tryz.func53, Tryz.ntmps53
      go_wp2
      go_ret
      exact ⟨rfl, rfl⟩
    · have e4 : ((k : Int) == 4) = false := by rw [beq_eq_false_iff_ne]; omega
      by_cases h2 : k = 2
      · subst h2
        go_enter Tryz.func53, Tryz.ntmps53
        go_wp2
        go_ret
        exact ⟨rfl, rfl⟩
      · have e2 : ((k : Int) == 2) = false := by rw [beq_eq_false_iff_ne]; omega
        rw [if_neg h3, if_neg h4, if_neg h2]
        clear h2 h3 h4
        go_enter Tryz.func53, Tryz.ntmps53
        go_wp2
        go_ret
        exact ⟨rfl, rfl⟩
end Go.Proofs.YtldkhbkgmiicbaaGreatDoor

/- The document's own nul, Sum, text, number and Seal, of layer 10. -/
namespace Go.Proofs.YtldkhbkgmiicbaaGreatDoor
open Go.RowKit Go.Deep
set_option linter.unusedVariables false
set_option linter.unusedSimpArgs false

theorem Hd.nul_at {s : Hd.B} {k : Nat} (h : s[k]? = some 0) : Hd.nul s = true := List.any_eq_true.2 ⟨0, List.mem_of_getElem? h, by decide⟩
theorem Hd.nul_none {s : Hd.B} (h : ∀ (k : Nat) (c : UInt8), s[k]? = some c → c ≠ 0) : Hd.nul s = false := by
  cases hx : Hd.nul s with
  | false => rfl
  | true =>
    obtain ⟨c, hc, he⟩ := List.any_eq_true.1 hx
    obtain ⟨k, hk⟩ := List.getElem?_of_mem hc
    exact absurd (eq_of_beq he) (h k c hk)
theorem Hd.at_text (s : ByteArray) (k : Nat) (h : k < s.size) : s.toList[k]? = some s[k] := by
  rw [ByteArray.toList_eq, Array.getElem?_toList]
  exact Array.getElem?_eq_getElem h
theorem rnul10_any (s : ByteArray) (hs : s.size ≤ 4611686018427387904) (w : World) : Calls Tryz.prog 98 #[.string s] w fun e w' => e = .returned (.bool (Hd.nul s.toList)) ∧ w' = w := by
  obtain ⟨R, hR⟩ : ∃ R, Hid (R = Hd.nul s.toList) := ⟨_, rfl⟩
  rw [← hR.out]
  go_enter Tryz.func98, Tryz.ntmps98
  go_wp2
  go_loop [2, 3] (fun r i => ∃ k : Nat, k ≤ s.size ∧ r = .bool false ∧ i = .int .i64 (k : Int) ∧ Hid (∀ j (h : j < s.size), j < k → s[j] ≠ 0)) (fun _ i => s.size - (intOf i).toNat)
  case atStart => exact ⟨0, Nat.zero_le _, rfl, rfl, fun j _ hj => by omega⟩
  case round =>
    obtain ⟨k, hk, rfl, rfl, hall⟩ := hrel
    have k0 : (0 : Int) ≤ (k : Int) := Int.natCast_nonneg _
    by_cases hlt : k < s.size
    · have t1 : (k : Int) < (s.size : Int) := by omega
      by_cases hz : s[k] = 0
      · have e1 : s[k].toNat = 0 := by rw [hz]; rfl
        have HR : Hid (R = true) := by show _ = _; rw [hR.out]; exact Hd.nul_at (k := k) (by rw [Hd.at_text s k hlt, hz])
        clear hz
        go_wp2
        go_ret
        exact ⟨by rw [HR.out]; rfl, rfl⟩
      · have e1 : ¬ s[k].toNat = 0 := fun e => hz (UInt8.toNat_inj.1 e)
        have HZ : Hid (s[k] ≠ 0) := hz
        have hall2 : Hid (∀ j (h : j < s.size), j < k + 1 → s[j] ≠ 0) := fun j h hj => by
          rcases Nat.lt_or_ge j k with h1 | h1
          · exact hall.out j h h1
          · have ejk : j = k := by omega
            subst ejk
            exact HZ.out
        clear hz
        go_wp2
        go_round
        case rel => exact ⟨k + 1, by omega, rfl, by go_num, hall2.out⟩
        case measure => simp [intOf]; omega
    · have t1 : ¬ (k : Int) < (s.size : Int) := by omega
      have HR : Hid (R = false) := by
        show _ = _
        rw [hR.out]
        refine Hd.nul_none (fun j c hj => ?_)
        have hj' := (List.getElem?_eq_some_iff.1 hj).1
        rw [Hd.size_toList] at hj'
        rw [Hd.at_text s j hj'] at hj
        have := hall.out j hj' (by omega)
        rw [← Option.some.inj hj]
        exact this
      go_wp2
      go_ret
      exact ⟨by rw [HR.out]; rfl, rfl⟩
set_option maxHeartbeats 1000000 in
theorem rSum_any (A : Option Addr) (ca : Nat) (l : Hd.B) (hl : l.length = 512) (w : World) (hr : RowAt w A 512 (Hd.rowF l)) :
    Calls Tryz.prog 125 #[.slice A 512 ca] w fun e w' => e = .returned (.int .i64 ((Hd.sumB l : Nat) : Int)) ∧ w' = w := by
  have HE : Hid (Hd.sumTo l 512 = Hd.sumB l) := Hd.sumTo_all hl
  obtain ⟨b, o, rfl, hc⟩ := hr.at (k := 0) (by omega)
  have HC : Hid (∀ i, i < 512 → w.cell? ⟨b, o + i, none⟩ = some (.int .u8 (Hd.rowF l i))) := hc
  clear hr hc
  go_enter Tryz.func125, Tryz.ntmps125
  go_wp2
  go_loop [3, 4] (fun t i => ∃ (k u : Nat), k ≤ 512 ∧ i = .int .i64 (k : Int) ∧ t = .int .i64 (u : Int) ∧ Hid (u = Hd.sumTo l k) ∧ u ≤ 130560) (fun _ i => 512 - (intOf i).toNat)
  case atStart => exact ⟨0, 0, Nat.zero_le _, rfl, rfl, rfl, Nat.zero_le _⟩
  case round =>
    obtain ⟨k, u, hk, rfl, rfl, hu, hub⟩ := hrel
    have k0 : (0 : Int) ≤ (k : Int) := Int.natCast_nonneg _
    by_cases hlt : k < 512
    · have h1 := HC.out k hlt
      obtain ⟨b0, b1⟩ := Hd.rowF_bd l k
      have t1 : (k : Int) < 512 := by omega
      by_cases hm : 148 ≤ k ∧ k < 156
      · have m1 : (148 : Int) ≤ (k : Int) := by omega
        have m2 : (k : Int) < 156 := by omega
        have hs : Hid (u + 32 = Hd.sumTo l (k + 1)) := by show _ = _; rw [hu.out]; unfold Hd.sumTo; rw [if_pos hm]; cases k <;> rfl
        have hs2 := Hd.sumTo_bd l (k + 1)
        rw [← hs.out] at hs2
        go_wp2
        go_round
        case rel => exact ⟨k + 1, u + 32, by omega, by go_num, by go_num, hs.out, by omega⟩
        case measure => simp [intOf]; omega
      · obtain ⟨z, hz⟩ : ∃ z : Nat, Hid (Hd.rowF l k = (z : Int)) := ⟨(Hd.rowF l k).toNat, by show _ = _; omega⟩
        have hs : Hid (u + z = Hd.sumTo l (k + 1)) := by
          show _ = _
          have e : (l.getD k 0).toNat = z := by have := hz.out; unfold Hd.rowF at this; omega
          rw [hu.out]; unfold Hd.sumTo; rw [if_neg hm, e]; cases k <;> rfl
        have hs2 := Hd.sumTo_bd l (k + 1)
        rw [← hs.out] at hs2
        rw [hz.out] at h1 b0 b1
        rcases Nat.lt_or_ge k 148 with hlo | hlo
        · have m1 : ¬ (148 : Int) ≤ (k : Int) := by omega
          go_wp2
          go_round
          case rel => exact ⟨k + 1, u + z, by omega, by go_num, by go_num, hs.out, by omega⟩
          case measure => simp [intOf]; omega
        · have m1 : (148 : Int) ≤ (k : Int) := by omega
          have m2 : ¬ (k : Int) < 156 := by omega
          go_wp2
          go_round
          case rel => exact ⟨k + 1, u + z, by omega, by go_num, by go_num, hs.out, by omega⟩
          case measure => simp [intOf]; omega
    · have ek : k = 512 := by omega
      subst ek
      go_wp2
      go_ret
      exact ⟨ret_int (by rw [hu.out, HE.out]), rfl⟩
/-- a list of bytes of the call's own, made since the block base -/
def GB (w : World) (base : Nat) (v : Value) (L : Hd.B) : Prop := w.ownsRow base 5 1 v L.length (Lib.byteCells L)
theorem GB.keep {w w' : World} {base : Nat} {v : Value} {L : Hd.B} (h : GB w base v L) (b : Bw w w') : GB w' base v L := own_keep h b
theorem GB.lower {w : World} {base b' : Nat} {v : Value} {L : Hd.B} (h : GB w base v L) (hb : b' ≤ base) : GB w b' v L := by
  refine ⟨h.1, ?_⟩
  rcases h.2 with h | ⟨g, cap, cur, hv, hg, hr⟩
  · exact Or.inl h
  · exact Or.inr ⟨g, cap, cur, hv, by omega, hr⟩
theorem GB.row {w : World} {base : Nat} {v : Value} {L : Hd.B} (h : GB w base v L) : ∃ A cap, v = .slice A L.length cap ∧ L.length ≤ cap ∧ cap ≤ maxLen ∧ RowAt w A L.length (Hd.rowF L) ∧ (∀ a, A = some a → base ≤ a.block ∧ a.block < w.heap.size) ∧ (A = none → cap = 0) := by
  have h' := h
  unfold GB at h
  rw [← Hd.cells_row] at h
  obtain ⟨A, cap, hv, h1, h2, h3, h4⟩ := row_of_own (Hd.rowF_bd L) h
  refine ⟨A, cap, hv, h1, h2, h3, h4, fun e => ?_⟩
  subst e
  rcases h'.2 with ⟨e, _⟩ | ⟨g, c, cur, e, _⟩
  · rw [hv] at e; injection e
  · rw [hv] at e; injection e with e1; cases e1
theorem GB.nil (w : World) (base : Nat) : GB w base (.slice none 0 0) [] := World.ownsRow_nil _ _ _ _
theorem str_cells (s : ByteArray) : Lib.strCells s = Lib.byteCells s.toList := by unfold Lib.strCells Lib.byteCells; rw [ByteArray.toList_eq]
theorem byteCells_append (a b : Hd.B) : Lib.byteCells (a ++ b) = Lib.byteCells a ++ Lib.byteCells b := List.map_append
set_option maxHeartbeats 1000000 in
theorem rtext_any (base : Nat) (v : Value) (L : Hd.B) (s : ByteArray) (W : Nat) (hW : W ≤ 512) (hs : s.size ≤ 512) (hL : L.length ≤ 512) (w : World) (hb : base ≤ w.heap.size) (h : GB w base v L) :
    Calls Tryz.prog 99 #[v, .string s, .int .i64 (W : Int)] w fun e w' => ∃ v', e = .returned v' ∧ GB w' base v' (L ++ Hd.pad s.toList W) ∧ Below base w w' := by
  obtain ⟨i0, hi0, hz0, hz1, hz2⟩ := info_parts info_u8
  have es := Hd.size_toList s
  unfold GB at h
  have HL : Hid (L.length ≤ 512) := hL
  obtain ⟨n, hn⟩ : ∃ n, Hid (L.length = n) := ⟨_, rfl⟩
  rw [hn.out] at h hL
  have s0 : (0 : Int) ≤ (s.size : Int) := Int.natCast_nonneg _
  go_enter Tryz.func99, Tryz.ntmps99
  go_wp2_with (at_builtin; refine Lib.wpList_append_own_string _ (by rfl) (.tmp 8) (.tmp 9) _ _ (by rfl) base 5 i0 Tryz.underlying24 Tryz.underlying9 hi0 hz0 hz1 hz2 _ _ _ (by rfl) h s (by rfl) (by unfold maxLen; omega) (by omega) hb ?_; intro v1 w1 hown1 hgrow1 _)
  rw [str_cells, ← byteCells_append] at hown1
  have hb1 : Below base w w1 := (Below.refl _ _).grown hgrow1 hb (own_ge h)
  have hs1 : base ≤ w1.heap.size := Nat.le_trans hb hb1.size
  clear h hgrow1
  go_loopw [0, 7] (fun v i wr => ∃ k : Nat, k ≤ W - s.size ∧ i = .int .i64 ((s.size : Int) + (k : Int)) ∧ wr.ownsRow base 5 1 v (n + s.size + k) (Lib.byteCells (L ++ s.toList ++ List.replicate k 0)) ∧ Below base w wr ∧ base ≤ wr.heap.size) (fun _ i _ => W - (intOf i).toNat)
  case atStart => exact ⟨0, Nat.zero_le _, by go_num, by rw [List.replicate_zero, List.append_nil]; exact hown1, hb1, hs1⟩
  case round =>
    obtain ⟨k, hk, rfl, hown, hbw, hsz⟩ := hrel
    have k0 : (0 : Int) ≤ (k : Int) := Int.natCast_nonneg _
    by_cases hlt : s.size + k < W
    · have t1 : (s.size : Int) + (k : Int) < (W : Int) := by omega
      go_wp2_with (at_builtin; refine wpList_append_lies _ (by rfl) (.tmp 18) (.tmp 19) _ (by rfl) base 5 i0 _ 1 1 Tryz.underlying24 hi0 hz0 hz1 hz2 rfl (by omega) _ _ _ (by rfl) (hown.alloc _) ⟨wr.heap.size, 0, none⟩ 1 1 [.int .u8 0] (by rfl) (by rfl) (World.news_of_block (cs := #[_]) (t := 5) (fr := (0, 0)) (heap_alloc_new wr _)) (by simp [Value.oneCell']) (by omega) (by unfold maxLen; omega) (by omega) (by simp; omega) (wr.heap.size + 1) (by simp) ?_; intro g4 c4 w4 hown4 hgrow4 hat4 hlt4)
      have hb4 : Below base w w4 := bw_grow hgrow4 (Below.alloc hbw hsz _) (by rw [size_alloc]; omega) (hown.alloc _)
      go_roundw
      case rel => exact ⟨k + 1, by omega, by go_num, by
        rw [List.replicate_succ', ← List.append_assoc, byteCells_append]
        exact hown4, hb4, by have := hb4.size; omega⟩
      case measure => simp [intOf]; omega
    · have t1 : ¬ (s.size : Int) + (k : Int) < (W : Int) := by omega
      go_wp2
      go_ret
      have ek : k = W - s.toList.length := by rw [es]; omega
      have hle : (L ++ Hd.pad s.toList W).length = n + s.size + k := by
        unfold Hd.pad
        rw [List.length_append, List.length_append, List.length_replicate, hn.out, es]; omega
      refine ⟨_, rfl, ?_, hbw⟩
      unfold GB
      rw [hle]
      unfold Hd.pad
      rw [← ek, ← List.append_assoc]
      exact hown
theorem rnumber_any10 (base : Nat) (v : Value) (L : Hd.B) (n : Int) (W : Nat) (hn : n ≤ 9223372036854775807) (h2 : 2 ≤ W) (h12 : W ≤ 12) (h0 : 0 ≤ n) (hf : n.toNat < 8 ^ (W - 1) ∨ n.toNat < 256 ^ (W - 1)) (hL : L.length ≤ 512) (w : World) (hb : base ≤ w.heap.size) (h : GB w base v L) :
    Calls Tryz.prog 100 #[v, .int .i64 n, .int .i64 (W : Int)] w fun e w' => ∃ v', e = .returned v' ∧ GB w' base v' (L ++ Hd.numB n.toNat W) ∧ Below base w w' := by
  obtain ⟨i0, hi0, hz0, hz1, hz2⟩ := info_parts info_u8
  have HF : Hid (n.toNat < 8 ^ (W - 1) ∨ n.toNat < 256 ^ (W - 1)) := hf
  have hw63 : L.length + W ≤ maxLen := by unfold maxLen; omega
  clear hf
  go_enter Tryz.func100, Tryz.ntmps100
  go_wp2_with (first
    | (go_at_call 124; refine (rput7_any n (W : Int) hn _).mono ?_; rintro e w1 hp; obtain ⟨g, cap, rfl, ho, hg, hcap, hcm⟩ := hp.form (by omega) (by omega) h0 (by rw [Int.toNat_natCast]; exact HF.out); have hw1 := hp.keeps; rw [Int.toNat_natCast] at ho hcap; rw [Int.toNat_natCast]; have hr := ho.row (Oct.formF_bd _ _); have h1 := h.keep hw1; have hb1 := Nat.le_trans hb hw1.size; clear hp ho hcap)
    | (at_builtin; refine wpList_append_rowat _ (by rfl) (.tmp 15) (.tmp 16) _ (by rfl) base 5 i0 _ 1 Tryz.underlying24 hi0 hz0 hz1 hz2 rfl _ _ _ (by rfl) h1 _ W _ (Oct.formF n.toNat W) (by rfl) hr (fun e => by cases e) hw63 (by omega) hb1 ?_; intro v2 w2 hown2 hgrow2))
  go_ret
  have e1 : cellsU (Oct.formF n.toNat W) W = Lib.byteCells (Hd.numB n.toNat W) := by
    rw [← Hd.cells_row, Hd.numB_len]
    exact List.map_congr_left fun i hi => by rw [Hd.rowF_num (List.mem_range.1 hi)]
  have el : (L ++ Hd.numB n.toNat W).length = L.length + W := by rw [List.length_append, Hd.numB_len]
  refine ⟨v2, rfl, ?_, ((Below.mono hw1 hb).grown hgrow2 hb1 (own_ge h1))⟩
  unfold GB
  rw [el, byteCells_append, ← e1]
  exact hown2
end Go.Proofs.YtldkhbkgmiicbaaGreatDoor

/- The document's own May, of layer 10 (written by mkmay10.py). -/
namespace Go.Proofs.YtldkhbkgmiicbaaGreatDoor
open Go.RowKit Go.Deep
set_option linter.unusedVariables false
set_option linter.unusedSimpArgs false

attribute [local go_sem] List.getElem?_cons_zero Option.getD_some
set_option maxRecDepth 100000 in
set_option maxHeartbeats 8000000 in
theorem rMay_x (n p k : ByteArray) (mode size time : Int) (c : Nat) (HNS : Hid (n.size ≤ 4611686018427387904)) (HKS : Hid (k.size ≤ 4611686018427387904)) (HPS : Hid (p.size ≤ 4611686018427387904)) (T LG NU AR : Bool)
    (hT : (T = true ∧ ¬ Hd.isT c) ∨ (T = false ∧ Hd.isT c)) (hLG : LG = true ↔ (n.size > 100 ∨ k.size > 100 ∨ p.size > 155)) (hNU : NU = true ↔ (Hd.nul n.toList = true ∨ Hd.nul k.toList = true ∨ Hd.nul p.toList = true))
    (hAR : AR = true ↔ (mode < 0 ∨ mode > 4095 ∨ size < 0 ∨ size > 8589934591 ∨ time < 0 ∨ time > 1099511627776)) (w : World) :
    Calls Tryz.prog 76 #[.agg #[.string n, .string p, .int .i64 mode, .int .i64 size, .int .i64 time, .int .u8 (c : Int), .string k]] w fun e w' => e = .returned (.int .i64 (if T then 102 else if LG then 2 else if NU then 82 else if AR then 1 else 0)) ∧ Bw w w' := by
  obtain ⟨W, hW⟩ : ∃ W, W = w.alloc (.cells #[.string n, .string p, .int .i64 mode, .int .i64 size, .int .i64 time, .int .u8 (c : Int), .string k] 61) := ⟨_, rfl⟩
  have hbw : Bw w W := by rw [hW]; exact bw_alloc7 (Bw.refl _) _
  have hc : ∀ i, W.cell? ⟨w.heap.size, i, none⟩ = (#[.string n, .string p, .int .i64 mode, .int .i64 size, .int .i64 time, .int .u8 (c : Int), .string k] : Array Value)[i]? := fun i => by rw [hW]; exact cell_of_row _ _ i _ _ _ (heap_alloc_new _ _)
  have c0 : W.cell? ⟨w.heap.size, 0, none⟩ = some (.string n) := hc 0
  have c1 : W.cell? ⟨w.heap.size, 1, none⟩ = some (.string p) := hc 1
  have c2 : W.cell? ⟨w.heap.size, 2, none⟩ = some (.int .i64 mode) := hc 2
  have c3 : W.cell? ⟨w.heap.size, 3, none⟩ = some (.int .i64 size) := hc 3
  have c4 : W.cell? ⟨w.heap.size, 4, none⟩ = some (.int .i64 time) := hc 4
  have c5 : W.cell? ⟨w.heap.size, 5, none⟩ = some (.int .u8 (c : Int)) := hc 5
  have c6 : W.cell? ⟨w.heap.size, 6, none⟩ = some (.string k) := hc 6
  have HT : Hid ((T = true ∧ ¬ Hd.isT c) ∨ (T = false ∧ Hd.isT c)) := hT
  have HLG : Hid (LG = true ↔ (n.size > 100 ∨ k.size > 100 ∨ p.size > 155)) := hLG
  have HNU : Hid (NU = true ↔ (Hd.nul n.toList = true ∨ Hd.nul k.toList = true ∨ Hd.nul p.toList = true)) := hNU
  have HAR : Hid (AR = true ↔ (mode < 0 ∨ mode > 4095 ∨ size < 0 ∨ size > 8589934591 ∨ time < 0 ∨ time > 1099511627776)) := hAR
  clear hc hT hLG hNU hAR
  go_enter Tryz.func76, Tryz.ntmps76
  go_upto_region 1 with fail
  rw [← hW]
  clear hW
  go_cut [25] from 3 to 25 (fun v wc => v = .bool T ∧ wc = W)
  case first =>
    rcases HT.out with ⟨rfl, h⟩ | ⟨rfl, h⟩
    · unfold Hd.isT at h
      have q1 : ((c : Int) != 48) = true := by rw [bne_iff_ne]; omega
      have q2 : ((c : Int) != 49) = true := by rw [bne_iff_ne]; omega
      have q3 : ((c : Int) != 50) = true := by rw [bne_iff_ne]; omega
      have q4 : ((c : Int) != 53) = true := by rw [bne_iff_ne]; omega
      have q5 : ((c : Int) != 120) = true := by rw [bne_iff_ne]; omega
      clear h
      go_wp2_with fail
      go_meet
      case rel => exact ⟨rfl, rfl⟩
    · rcases h with rfl | rfl | rfl | rfl | rfl
      all_goals
        go_wp2_with fail
        go_meet
        case rel => exact ⟨rfl, rfl⟩
  case rest =>
    obtain ⟨rfl, rfl⟩ := hcut
    clear HT
    cases T with
    | true =>
      go_wp2
      go_ret
      exact ⟨rfl, hbw⟩
    | false =>
    go_upto_region 3 with fail
    go_cut [41] from 26 to 41 (fun v wx => v = .bool LG ∧ wx = wc)
    case first =>
      by_cases a1 : 100 < (n.size : Int)
      · obtain rfl : LG = true := HLG.out.2 (by omega)
        go_wp2_with fail
        go_meet
        case rel => exact ⟨rfl, rfl⟩
      by_cases a2 : 100 < (k.size : Int)
      · obtain rfl : LG = true := HLG.out.2 (by omega)
        go_wp2_with fail
        go_meet
        case rel => exact ⟨rfl, rfl⟩
      by_cases a3 : 155 < (p.size : Int)
      · obtain rfl : LG = true := HLG.out.2 (by omega)
        go_wp2_with fail
        go_meet
        case rel => exact ⟨rfl, rfl⟩
      · obtain rfl : LG = false := by
          cases LG with
          | false => rfl
          | true => have := HLG.out.1 rfl; omega
        go_wp2_with fail
        go_meet
        case rel => exact ⟨by first | rfl | rw [decide_eq_false (by omega)], rfl⟩
    case rest =>
      obtain ⟨rfl, rfl⟩ := hcut
      clear HLG
      cases LG with
      | true =>
        go_wp2
        go_ret
        exact ⟨rfl, hbw⟩
      | false =>
      go_upto_region 5 with fail
      go_cut [54] from 42 to 54 (fun v wx => v = .bool NU ∧ wx = wc)
      case first =>
        cases b1 : Hd.nul n.toList with
        | true =>
          obtain rfl : NU = true := HNU.out.2 (.inl b1)
          go_wp2_with (first | (go_at_call_of 98 n; refine (rnul10_any _ HNS.out _).mono ?_; rintro e w' ⟨rfl, hw'⟩; subst w') | (go_at_call_of 98 k; refine (rnul10_any _ HKS.out _).mono ?_; rintro e w' ⟨rfl, hw'⟩; subst w') | (go_at_call_of 98 p; refine (rnul10_any _ HPS.out _).mono ?_; rintro e w' ⟨rfl, hw'⟩; subst w'))
          go_meet
          case rel => exact ⟨rfl, rfl⟩
        | false =>
        cases b2 : Hd.nul k.toList with
        | true =>
          obtain rfl : NU = true := HNU.out.2 (.inr (.inl b2))
          go_wp2_with (first | (go_at_call_of 98 n; refine (rnul10_any _ HNS.out _).mono ?_; rintro e w' ⟨rfl, hw'⟩; subst w') | (go_at_call_of 98 k; refine (rnul10_any _ HKS.out _).mono ?_; rintro e w' ⟨rfl, hw'⟩; subst w') | (go_at_call_of 98 p; refine (rnul10_any _ HPS.out _).mono ?_; rintro e w' ⟨rfl, hw'⟩; subst w'))
          go_meet
          case rel => exact ⟨rfl, rfl⟩
        | false =>
        cases b3 : Hd.nul p.toList with
        | true =>
          obtain rfl : NU = true := HNU.out.2 (.inr (.inr b3))
          go_wp2_with (first | (go_at_call_of 98 n; refine (rnul10_any _ HNS.out _).mono ?_; rintro e w' ⟨rfl, hw'⟩; subst w') | (go_at_call_of 98 k; refine (rnul10_any _ HKS.out _).mono ?_; rintro e w' ⟨rfl, hw'⟩; subst w') | (go_at_call_of 98 p; refine (rnul10_any _ HPS.out _).mono ?_; rintro e w' ⟨rfl, hw'⟩; subst w'))
          go_meet
          case rel => exact ⟨rfl, rfl⟩
        | false =>
          obtain rfl : NU = false := by
            cases NU with
            | false => rfl
            | true => have := HNU.out.1 rfl; rw [b1, b2, b3] at this; simp at this
          go_wp2_with (first | (go_at_call_of 98 n; refine (rnul10_any _ HNS.out _).mono ?_; rintro e w' ⟨rfl, hw'⟩; subst w') | (go_at_call_of 98 k; refine (rnul10_any _ HKS.out _).mono ?_; rintro e w' ⟨rfl, hw'⟩; subst w') | (go_at_call_of 98 p; refine (rnul10_any _ HPS.out _).mono ?_; rintro e w' ⟨rfl, hw'⟩; subst w'))
          go_meet
          case rel => exact ⟨rfl, rfl⟩
      case rest =>
        obtain ⟨rfl, rfl⟩ := hcut
        clear HNU
        cases NU with
        | true =>
          go_wp2
          go_ret
          exact ⟨rfl, hbw⟩
        | false =>
        go_upto_region 7 with fail
        go_cut [82] from 55 to 82 (fun v wx => v = .bool AR ∧ wx = wc)
        case first =>
          by_cases m0 : mode < 0
          · obtain rfl : AR = true := HAR.out.2 (by omega)
            go_wp2_with fail
            go_meet
            case rel => exact ⟨rfl, rfl⟩
          by_cases m1 : 4095 < mode
          · obtain rfl : AR = true := HAR.out.2 (by omega)
            go_wp2_with fail
            go_meet
            case rel => exact ⟨rfl, rfl⟩
          by_cases s0 : size < 0
          · obtain rfl : AR = true := HAR.out.2 (by omega)
            go_wp2_with fail
            go_meet
            case rel => exact ⟨rfl, rfl⟩
          by_cases s1 : 8589934591 < size
          · obtain rfl : AR = true := HAR.out.2 (by omega)
            go_wp2_with fail
            go_meet
            case rel => exact ⟨rfl, rfl⟩
          by_cases t0 : time < 0
          · obtain rfl : AR = true := HAR.out.2 (by omega)
            go_wp2_with fail
            go_meet
            case rel => exact ⟨rfl, rfl⟩
          by_cases t1 : 1099511627776 < time
          · obtain rfl : AR = true := HAR.out.2 (by omega)
            go_wp2_with fail
            go_meet
            case rel => exact ⟨rfl, rfl⟩
          · obtain rfl : AR = false := by
              cases AR with
              | false => rfl
              | true => have := HAR.out.1 rfl; omega
            go_wp2_with fail
            go_meet
            case rel => exact ⟨by first | rfl | rw [decide_eq_false (by omega)], rfl⟩
        case rest =>
          obtain ⟨rfl, rfl⟩ := hcut
          cases AR with
          | true =>
            go_wp2
            go_ret
            exact ⟨rfl, hbw⟩
          | false =>
            go_wp2
            go_ret
            exact ⟨rfl, hbw⟩
theorem rMay_any (h : Hd.Hdr) (hn : h.name.length ≤ 4611686018427387904) (hk : h.link.length ≤ 4611686018427387904) (hp : h.pre.length ≤ 4611686018427387904) (w : World) : Calls Tryz.prog 76 #[.agg (Hd.hv h)] w fun e w' => e = .returned (.int .i64 ((Hd.may h : Nat) : Int)) ∧ Bw w w' := by
  have hT := Hd.typ_isT h.typ
  have key : ∀ P : Prop, ∃ b : Bool, (b = true ↔ P) := fun P => by
    by_cases h : P
    · exact ⟨true, ⟨fun _ => h, fun _ => rfl⟩⟩
    · exact ⟨false, ⟨fun e => Bool.noConfusion e, fun e => absurd e h⟩⟩
  obtain ⟨T, hTe⟩ := key (¬ Hd.isT h.typ.toNat)
  obtain ⟨LG, hLG⟩ := key (h.name.length > 100 ∨ h.link.length > 100 ∨ h.pre.length > 155)
  obtain ⟨NU, hNU⟩ := key (Hd.nul h.name = true ∨ Hd.nul h.link = true ∨ Hd.nul h.pre = true)
  obtain ⟨AR, hAR⟩ := key (h.mode < 0 ∨ h.mode > 4095 ∨ h.size < 0 ∨ h.size > 8589934591 ∨ h.time < 0 ∨ h.time > 1099511627776)
  have hm : ((Hd.may h : Nat) : Int) = (if T then 102 else if LG then 2 else if NU then 82 else if AR then 1 else 0) := by
    unfold Hd.may
    have e1 : (h.typ ≠ 48 ∧ h.typ ≠ 49 ∧ h.typ ≠ 50 ∧ h.typ ≠ 53 ∧ h.typ ≠ 120) ↔ T = true := by
      rw [hTe, ← hT]
      constructor
      · rintro ⟨a1, a2, a3, a4, a5⟩ (e | e | e | e | e)
        · exact a1 e
        · exact a2 e
        · exact a3 e
        · exact a4 e
        · exact a5 e
      · intro a
        exact ⟨fun e => a (.inl e), fun e => a (.inr (.inl e)), fun e => a (.inr (.inr (.inl e))), fun e => a (.inr (.inr (.inr (.inl e)))), fun e => a (.inr (.inr (.inr (.inr e))))⟩
    simp only [e1, ← hLG, ← hNU, ← hAR]
    cases T <;> cases LG <;> cases NU <;> cases AR <;> rfl
  rw [hm]
  have e : Hd.hv h = #[.string (Hd.S h.name), .string (Hd.S h.pre), .int .i64 h.mode, .int .i64 h.size, .int .i64 h.time, .int .u8 ((h.typ.toNat : Nat) : Int), .string (Hd.S h.link)] := rfl
  rw [e]
  refine rMay_x (Hd.S h.name) (Hd.S h.pre) (Hd.S h.link) h.mode h.size h.time h.typ.toNat (by rw [Hd.size_S]; exact hn) (by rw [Hd.size_S]; exact hk) (by rw [Hd.size_S]; exact hp) T LG NU AR ?_ (by rw [Hd.size_S, Hd.size_S, Hd.size_S]; exact hLG) (by rw [Hd.toList_S, Hd.toList_S, Hd.toList_S]; exact hNU) hAR w
  cases T with
  | true => exact .inl ⟨rfl, hTe.1 rfl⟩
  | false => exact .inr ⟨rfl, Classical.not_not.1 (fun h => Bool.noConfusion (hTe.2 h))⟩
end Go.Proofs.YtldkhbkgmiicbaaGreatDoor

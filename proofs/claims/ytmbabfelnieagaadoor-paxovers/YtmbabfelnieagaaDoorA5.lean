/- The document's own Key (of tabularyref09). -/
import Derived.Test.YtmbabfelnieagaaDoorA4
import Derived.Laws.IdiomStrings
namespace Go.Proofs.YtmbabfelnieagaaDoor
open Go.RowKit Go.Deep
set_option linter.unusedVariables false
set_option linter.unusedSimpArgs false

namespace Px
def badB (c : UInt8) : Bool := c == 0 || c == 10 || c == 61
theorem key_bad {l : B} {k : Nat} {c : UInt8} (h : l[k]? = some c) (hb : badB c = true) : keyF l = false := by
  unfold keyF
  have hm : c ∈ l := List.mem_of_getElem? h
  have : (l.all fun c => c != 0 && c != 10 && c != 61) = false := by
    rw [List.all_eq_false]
    refine ⟨c, hm, ?_⟩
    unfold badB at hb
    simp only [Bool.or_eq_true, beq_iff_eq] at hb
    rcases hb with (rfl | rfl) | rfl <;> decide
  rw [this]; rfl
theorem key_good {l : B} (h : ∀ (j : Nat) (c : UInt8), l[j]? = some c → badB c = false) : keyF l = (decide (1 ≤ l.length) && decide (l.length ≤ 32)) := by
  unfold keyF
  have : (l.all fun c => c != 0 && c != 10 && c != 61) = true := by
    rw [List.all_eq_true]
    intro c hc
    obtain ⟨j, hj⟩ := List.getElem?_of_mem hc
    have := h j c hj
    unfold badB at this
    simp only [Bool.or_eq_false_iff, beq_eq_false_iff_ne] at this
    simp [this.1.1, this.1.2, this.2]
  rw [this, Bool.true_and]
end Px

set_option maxHeartbeats 1000000 in
theorem rkey_any (s : ByteArray) (hs : s.size ≤ 4611686018427387904) (w : World) :
    Calls Tryd.prog 41 #[.string s] w fun e w' => e = .returned (.bool (Px.keyF s.toList)) ∧ w' = w := by
  have HSZ : Hid (s.toList.length = s.size) := Nm.size_toList s
  go_enter Tryd.func41, Tryd.ntmps41
  go_wp2
  go_loop [2, 3] (fun r i => ∃ (k : Nat), k ≤ s.size ∧ r = .bool false ∧ i = .int .i64 (k : Int) ∧ Hid (∀ j c, j < k → s.toList[j]? = some c → Px.badB c = false)) (fun _ i => s.size - (intOf i).toNat)
  case atStart => exact ⟨0, Nat.zero_le _, rfl, rfl, fun j c hj => by omega⟩
  case round =>
    obtain ⟨k, hk, rfl, rfl, hall⟩ := hrel
    have k0 : (0 : Int) ≤ (k : Int) := Int.natCast_nonneg _
    by_cases hlt : k < s.size
    · have t1 : (k : Int) < (s.size : Int) := by omega
      have hg : Hid (s.toList[k]? = some s[k]) := by
        show _ = _
        rw [List.getElem?_eq_getElem (by rw [HSZ.out]; exact hlt), Nm.get_toList s k hlt (by rw [HSZ.out]; exact hlt)]
      have hbad : Hid (Px.badB s[k] = true → Px.keyF s.toList = false) := fun h => Px.key_bad hg.out h
      have hbb : ∀ n : Nat, n < 256 → (s[k].toNat = n ↔ s[k] = UInt8.ofNat n) := fun n hn => by
        constructor
        · intro h; apply UInt8.toNat_inj.1; rw [h, UInt8.toNat_ofNat']; omega
        · intro h; rw [h, UInt8.toNat_ofNat']; omega
      have HBB : Hid (∀ n : Nat, n < 256 → (s[k].toNat = n ↔ s[k] = UInt8.ofNat n)) := hbb
      clear hbb
      go_wp2
      · rename_i h1 _
        have e : s[k] = 0 := (HBB.out 0 (by omega)).1 h1
        go_ret
        exact ⟨ret_bool (hbad.out (by rw [e]; rfl)).symm, rfl⟩
      · rename_i _ h1 _
        have e : s[k] = 10 := (HBB.out 10 (by omega)).1 (by omega)
        go_ret
        exact ⟨ret_bool (hbad.out (by rw [e]; rfl)).symm, rfl⟩
      · rename_i a1 a2 h1 _
        have e : s[k] = 61 := (HBB.out 61 (by omega)).1 (by
          rcases h1 with (h | h) | h
          · have := eq_of_beq h; omega
          · have := eq_of_beq h; omega
          · have := eq_of_beq h; omega)
        go_ret
        exact ⟨ret_bool (hbad.out (by rw [e]; rfl)).symm, rfl⟩
      · rename_i a1 a2 h1
        have h3 : (s[k].toNat : Int) ≠ 61 := by have := h1.2; rwa [beq_eq_false_iff_ne] at this
        refine ⟨⟨k + 1, by omega, rfl, by go_num, fun j c hj hc => ?_⟩, by simp [intOf]; omega⟩
        rcases Nat.lt_or_ge j k with h | h
        · exact hall.out j c h hc
        · obtain rfl : j = k := by omega
          rw [hg.out] at hc
          obtain rfl := Option.some.inj hc
          unfold Px.badB
          simp only [Bool.or_eq_false_iff, beq_eq_false_iff_ne]
          exact ⟨⟨fun e => a1 ((HBB.out 0 (by omega)).2 e), fun e => a2 (by have := (HBB.out 10 (by omega)).2 e; omega)⟩, fun e => h3 (by have := (HBB.out 61 (by omega)).2 e; omega)⟩
    · have ek : k = s.size := by omega
      subst ek
      have hans : Hid (Px.keyF s.toList = (decide (1 ≤ s.size) && decide (s.size ≤ 32))) := by
        show _ = _
        rw [← HSZ.out]
        exact Px.key_good fun j c h => hall.out j c (by have := (List.getElem?_eq_some_iff.1 h).1; rw [HSZ.out] at this; exact this) h
      go_wp2
      · rename_i h1 _
        go_ret
        refine ⟨ret_bool ?_, rfl⟩
        rw [hans.out, decide_eq_true (show 1 ≤ s.size by omega), Bool.true_and]
        exact decide_eq_decide.2 (by omega)
      · rename_i _ h1
        go_ret
        refine ⟨ret_bool ?_, rfl⟩
        rw [hans.out, decide_eq_false (show ¬ 1 ≤ s.size by omega), Bool.false_and]

theorem conv_one (W : World) (d : Nat) (hd : d < 10) (z : Int) (hz : z = 48 + (d : Int)) :
    (convert 24 9 (.slice (some ⟨W.heap.size, 0, none⟩) 1 1)).run Tryd.prog (W.alloc (.cells #[.int .u8 z] 5)) = .ok (.string (Nm.S [UInt8.ofNat (48 + d)])) (W.alloc (.cells #[.int .u8 z] 5)) := by
  refine run_convert_bytes_back _ 24 9 5 ⟨W.heap.size, 0, none⟩ 1 [UInt8.ofNat (48 + d)] Tryd.underlying24 Tryd.underlying5 Tryd.underlying9 ?_
  intro j hj
  obtain rfl : j = 0 := by simpa using hj
  have h1 : ((UInt8.ofNat (48 + d)).toNat : Int) = z := by rw [Px.dig_nat hd, hz]; omega
  show _ = some (Value.int .u8 ((UInt8.ofNat (48 + d)).toNat : Int))
  rw [h1]
  simp [go_sem, Addr.add]
set_option maxRecDepth 100000 in
set_option maxHeartbeats 1000000 in
theorem rdecimal_any (n : Nat) (hn : n ≤ 4611686018427387904) (w : World) :
    Calls Tryd.prog 27 #[.int .i64 (n : Int)] w fun e w' => e = .returned (.string (Nm.S (Px.dec n))) ∧ Bw w w' := by
  go_enter Tryd.func27, Tryd.ntmps27
  go_wp2
  go_loopw [0, 3] (fun m t wr => ∃ (k : Nat) (X : ByteArray), k ≤ n ∧ m = .int .i64 (k : Int) ∧ t = .string X ∧ Hid (Nm.S (Px.dec n) = Nm.S (Px.dec k) ++ X) ∧ X.size ≤ 1 + (n - k) ∧ Bw w wr) (fun m _ _ => (intOf m).toNat)
  case atStart => exact ⟨n, ⟨#[]⟩, Nat.le_refl _, rfl, rfl, by show _ = _; rw [show (⟨#[]⟩ : ByteArray) = Nm.S [] from rfl, Nm.append_S, List.append_nil], Nat.zero_le _, Bw.refl _⟩
  case round =>
    obtain ⟨k, X, hk, rfl, rfl, hX, hXs, hwr⟩ := hrel
    have k0 : (0 : Int) ≤ (k : Int) := Int.natCast_nonneg _
    by_cases h10 : 9 < k
    · have t1 : (9 : Int) < (k : Int) := by omega
      have hcv := conv_one wr (k % 10) (by omega) (48 + (k : Int) % 10) (by omega)
      have hs1 : (Nm.S [UInt8.ofNat (48 + k % 10)]).size = 1 := by rw [Nm.size_S]; rfl
      obtain ⟨Y, hY⟩ : ∃ Y, Y = Nm.S [UInt8.ofNat (48 + k % 10)] := ⟨_, rfl⟩
      obtain ⟨Z, hZ⟩ : ∃ Z, Z = Y ++ X := ⟨_, rfl⟩
      rw [← hY] at hcv hs1
      have hrun : ∀ u : World, (Op.stringOp .add Y X).run Tryd.prog u = .ok (.string Z) u := fun u => by rw [run_string_add_sum _ _ _ (by omega), hZ]
      have hnx : Hid (Nm.S (Px.dec n) = Nm.S (Px.dec (k / 10)) ++ Z) := by
        show _ = _
        rw [hX.out, Px.dec_more (by omega), hZ, hY, ← Nm.append_S, ByteArray.append_assoc]
      have hzs : Hid (Z.size ≤ 1 + (n - k / 10)) := by show _ ≤ _; rw [hZ, ByteArray.size_append, hs1]; omega
      clear hY hZ
      go_wp2
      go_roundw
      case rel => exact ⟨k / 10, Z, by omega, by go_num, rfl, hnx, hzs.out, hwr.trans (Below.alloc (Below.refl _ _) (Nat.le_refl _) _)⟩
      case measure => simp [intOf]; omega
    · have t1 : (k : Int) ≤ 9 := by omega
      have hcv := conv_one wr k (by omega) (48 + (k : Int)) rfl
      have hs1 : (Nm.S [UInt8.ofNat (48 + k)]).size = 1 := by rw [Nm.size_S]; rfl
      obtain ⟨Y, hY⟩ : ∃ Y, Y = Nm.S [UInt8.ofNat (48 + k)] := ⟨_, rfl⟩
      obtain ⟨Z, hZ⟩ : ∃ Z, Z = Y ++ X := ⟨_, rfl⟩
      rw [← hY] at hcv hs1
      have hrun : ∀ u : World, (Op.stringOp .add Y X).run Tryd.prog u = .ok (.string Z) u := fun u => by rw [run_string_add_sum _ _ _ (by omega), hZ]
      have hnx : Hid (Nm.S (Px.dec n) = Z) := by
        show _ = _
        rw [hX.out, Px.dec_one (by omega), hZ, hY]
      clear hY hZ
      go_wp2
      go_ret
      exact ⟨by rw [hnx.out]; rfl, hwr.trans (Below.alloc (Below.refl _ _) (Nat.le_refl _) _)⟩

set_option maxHeartbeats 1000000 in
theorem rsize_any (a b : ByteArray) (ha : a.size ≤ 140737488355328) (hb : b.size ≤ 140737488355328) (w : World) :
    Calls Tryd.prog 11 #[.agg #[.string a, .string b]] w fun e w' => e = .returned (.int .i64 ((Px.psize (a.toList, b.toList) : Nat) : Int)) ∧ Bw w w' := by
  obtain ⟨r, hr⟩ : ∃ r, Hid (r = 3 + a.size + b.size) := ⟨_, rfl⟩
  have HP : Hid (Px.psize (a.toList, b.toList) = Px.size r) := by
    show _ = _
    unfold Px.psize
    rw [Nm.size_toList, Nm.size_toList, hr.out]
  go_enter Tryd.func11, Tryd.ntmps11
  have HB : Hid (Px.size r ≤ r + r + 2) := by
    show _ ≤ _
    have := Px.dl_le r
    unfold Px.size
    split <;> omega
  have hrb : r ≤ 281474976710659 := by have := hr.out; omega
  have hr2 : Hid ((3 : Int) + (a.size : Int) + (b.size : Int) = (r : Int)) := by show _ = _; have := hr.out; omega
  go_wp2
  rw [hr2.out]
  have hw1 : Bw w (w.alloc (.cells #[.string a, .string b] 23)) := Below.alloc (Below.refl _ _) (Nat.le_refl _) _
  go_loopw [4] (fun m wr => ∃ (k : Nat), r ≤ k ∧ k ≤ Px.size r ∧ m = .int .i64 (k : Int) ∧ Bw w wr) (fun m _ => Px.size r - (intOf m).toNat)
  case atStart => exact ⟨r, Nat.le_refl _, by have := Px.size_ge r; omega, rfl, hw1⟩
  case round =>
    obtain ⟨k, hk1, hk2, rfl, hwr⟩ := hrel
    have k0 : (0 : Int) ≤ (k : Int) := Int.natCast_nonneg _
    have kb : k ≤ 4611686018427387904 := by have := HB.out; omega
    have hsz : (Nm.S (Px.dec k)).size = Px.dl k := by rw [Nm.size_S, Px.dec_len]
    obtain ⟨X, hX⟩ : ∃ X, Hid (X = Nm.S (Px.dec k)) := ⟨_, rfl⟩
    rw [← hX.out] at hsz
    have hdl : Hid (Px.dl k ≤ k + 1) := Px.dl_le k
    obtain ⟨d, hd⟩ : ∃ d, Hid (d = Px.dl k) := ⟨_, rfl⟩
    rw [← hd.out] at hsz hdl
    by_cases he : k = r + d
    · have hans : Hid (Px.psize (a.toList, b.toList) = k) := by
        show _ = _
        rw [HP.out]
        exact Nat.le_antisymm (Px.size_least (by rw [← hd.out]; exact he)) hk2
      have e1 : ((k : Int) != (r : Int) + (d : Int)) = false := by rw [bne_eq_false_iff_eq]; omega
      have hdb : d ≤ 4611686018427387904 := by omega
      clear he
      go_wp2_with (go_at_call 27; refine (rdecimal_any k kb _).mono ?_; rintro e w2 ⟨rfl, hw2⟩; rw [← hX.out])
      go_ret
      exact ⟨ret_int (by rw [hans.out]), hwr.trans hw2⟩
    · have e1 : ((k : Int) != (r : Int) + (d : Int)) = true := by rw [bne_iff_ne]; omega
      have hdb : d ≤ 4611686018427387904 := by have := hdl.out; have := HB.out; omega
      have hlt : Hid (k + 1 ≤ Px.size r) := by
        show _ ≤ _
        rcases Nat.lt_or_ge k (Px.size r) with h | h
        · exact h
        · exfalso
          have hk : k = Px.size r := Nat.le_antisymm hk2 h
          have := Px.size_says r
          rw [← hk, ← hd.out] at this
          exact he this
      clear he
      go_wp2_with (go_at_call 27; refine (rdecimal_any k kb _).mono ?_; rintro e w2 ⟨rfl, hw2⟩; rw [← hX.out])
      go_roundw
      case rel => exact ⟨k + 1, by omega, hlt.out, by go_num, hwr.trans hw2⟩
      case measure => have := hlt.out; simp [intOf]; omega

set_option maxHeartbeats 1000000 in
theorem rfits_any (a b : ByteArray) (ha : a.size ≤ 140737488355328) (hb : b.size ≤ 140737488355328) (w : World) :
    Calls Tryd.prog 26 #[.agg #[.string a, .string b]] w fun e w' => e = .returned (.int .i64 ((Px.fits (a.toList, b.toList) : Nat) : Int)) ∧ Bw w w' := by
  have hw1 : Bw w (w.alloc (.cells #[.string a, .string b] 23)) := Below.alloc (Below.refl _ _) (Nat.le_refl _) _
  have HSZ : Hid (b.toList.length = b.size) := Nm.size_toList b
  obtain ⟨K, hK⟩ : ∃ K, Hid (K = Px.keyF a.toList) := ⟨_, rfl⟩
  have HF : Hid (Px.fits (a.toList, b.toList) = if K = false then 91 else if b.size > 1024 then 2 else 0) := by
    show _ = _
    unfold Px.fits
    dsimp only
    rw [← hK.out, HSZ.out]
  go_enter Tryd.func26, Tryd.ntmps26
  cases K with
  | false =>
    have hans : Hid (Px.fits (a.toList, b.toList) = 91) := by show _ = _; rw [HF.out, if_pos rfl]
    go_wp2_with (go_at_call 41; refine (rkey_any a (by omega) _).mono ?_; rintro e w2 ⟨rfl, rfl⟩; rw [← hK.out])
    go_ret
    exact ⟨ret_int (by rw [hans.out]; rfl), hw1⟩
  | true =>
    by_cases h1 : 1024 < b.size
    · have t1 : (1024 : Int) < (b.size : Int) := by omega
      have hans : Hid (Px.fits (a.toList, b.toList) = 2) := by show _ = _; rw [HF.out, if_neg (by simp), if_pos h1]
      go_wp2_with (go_at_call 41; refine (rkey_any a (by omega) _).mono ?_; rintro e w2 ⟨rfl, rfl⟩; rw [← hK.out])
      go_ret
      exact ⟨ret_int (by rw [hans.out]; rfl), hw1⟩
    · have t1 : (b.size : Int) ≤ 1024 := by omega
      have hans : Hid (Px.fits (a.toList, b.toList) = 0) := by show _ = _; rw [HF.out, if_neg (by simp), if_neg h1]
      go_wp2_with (go_at_call 41; refine (rkey_any a (by omega) _).mono ?_; rintro e w2 ⟨rfl, rfl⟩; rw [← hK.out])
      go_ret
      exact ⟨ret_int (by rw [hans.out]; rfl), hw1⟩
end Go.Proofs.YtmbabfelnieagaaDoor

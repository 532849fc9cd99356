/- Contract of the program's own Of, and of law05's wakes. -/
import Derived.Test.YtcpapaceggnaoaaDoorEC
import Derived.Test.YtcpapaceggnaoaaDoorE8
import Derived.Test.YtcpapaceggnaoaaDoorDk
import Derived.Lib.SlBytesConst
namespace Go.Proofs.YtcpapaceggnaoaaDoor
open Go.RowKit Go.Deep

theorem dig_join (F f : Nat → Int) (L : Nat) : Sha.dig (nbD (joinF F 0 f)) (0 + L) = Sha.dig (nbD f) L := by
  rw [Nat.zero_add]
  exact Sha.dig_congr L (fun i _ => by unfold nbD joinF; rw [if_neg (by omega), Nat.sub_zero])

set_option maxRecDepth 100000 in
set_option maxHeartbeats 4000000 in
theorem pof_any (B : Option Addr) (L cb : Nat) (f : Nat → Int) (hcb : L ≤ cb) (hcb2 : cb ≤ 140737488355328) (hL : L ≤ 1000000000000) (w : World) (hr : RowAt w B L f) (hk : KAt w) :
    Calls Tryd.prog 10 #[.slice B L cb] w fun e w' => ∃ T : Array Value, e = .returned (.agg T) ∧ T.size = 32 ∧ (∀ i, i < 32 → T[i]? = some (.int .u8 ((Sha.dig (nbD f) L i : Nat) : Int))) ∧ Bw w w' := by
  have hz := zero32
  have hF : ∀ i : Nat, (0 : Int) ≤ (fun _ : Nat => (0 : Int)) i ∧ (fun _ : Nat => (0 : Int)) i < 256 := fun _ => (by decide : (0 : Int) ≤ 0 ∧ (0 : Int) < 256)
  obtain ⟨W0, hW0⟩ : ∃ W0, W0 = w.alloc (.cells zeros32 23) := ⟨_, rfl⟩
  obtain ⟨W1, hW1⟩ : ∃ W1, W1 = W0.alloc (.cells (hcells Sha.iv none 0 0) 47) := ⟨_, rfl⟩
  have hb0 : Bw w W0 := by rw [hW0]; exact (Below.refl _ _).alloc (Nat.le_refl _) _
  have hb1 : Bw W0 W1 := by rw [hW1]; exact (Below.refl _ _).alloc (Nat.le_refl _) _
  have hZ : W0.heap[w.heap.size]? = some (.cells zeros32 23 (0, 0)) := by rw [hW0]; exact heap_alloc_new _ _
  have hs0 : W0.heap.size = w.heap.size + 1 := by rw [hW0, size_alloc]
  have hH : HashAt W1 (w.heap.size + 1) (fun _ => 0) 0 none := by rw [hW1, ← hs0]; exact new_hash W0 _ hF
  have hr1 := (hr.keep hb0).keep hb1
  have hk1 := (hk.keep hb0).keep hb1
  have hZ1 : W1.heap[w.heap.size]? = some (.cells zeros32 23 (0, 0)) := (hb1.block _ (by omega)).trans hZ
  subst hW1
  subst hW0
  go_enter Tryd.func10, Tryd.ntmps10
  go_wp2_with (first
    | (go_at_call 14; refine (new_any _).mono ?_; rintro e w1 ⟨rfl, hw1⟩; subst w1; try rw [size_alloc])
    | (go_at_call 15; refine (write_any _ _ 0 none B L cb f hcb (Nat.le_trans hcb2 (by decide)) (by omega) _ hH hr1 hk1).mono ?_; rintro e w2 ⟨rfl, A2, hH2, -, hx2⟩; have hk2 := hk1.keepx hx2 (by omega))
    | (go_at_call 16; refine (sum_any _ _ (0 + L) A2 (by omega) _ hH2 hk2).mono ?_; rintro e w3 ⟨T, rfl, hTs, hT, hw3⟩; rw [dig_join] at hT; have hi32 : (Tryd.prog.info? 23).map (·.size) = some T.size := (by rw [hTs]; kernel_rfl); have hall := bytes_all hTs hT; have hZ3 : w3.heap[w.heap.size]? = some (.cells zeros32 23 (0, 0)) := (hw3.block _ (by have := hx2.size; have := hb1.size; omega)).trans ((hx2.block _ (by have := hb1.size; omega) (by omega)).trans hZ1); have hzs : zeros32.size = T.size := (by rw [hTs]; rfl); have hT' : Hid (∀ i, i < 32 → T[i]? = some (.int .u8 ((Sha.dig (nbD f) L i : Nat) : Int))) := hT; clear hT)
    | refine wpList_store_row rfl 23 _ _ rfl w.heap.size T rfl rfl 23 zeros32 hZ3 hi32 hzs hall ?_)
  have hbw : Bw w w3 := Bw.trans (Below.trans (hb0.trans hb1) (hx2.below (hb0.trans hb1).size (fun b e => by omega))) hw3
  exact bodyPost_ret (results_cell_row Tryd.results10 _ _ w.heap.size 23 T (0, 0) _ rfl (setRow_heap w3 w.heap.size _ _ _ _ hZ3) Tryd.underlying23 rfl hi32) rfl ⟨T, rfl, hTs, hT'.out, setRow_bw hbw (Nat.le_refl _) _⟩

theorem txt_digs {f : Nat → Nat} {L : Nat} {l : List Nat} (h : Sha.digs f L = l) : str (txtF (Sha.dig f L)) 64 = strOfNums ((List.range 64).map (txtF (fun i => l.getD i 0))) := by
  unfold str
  refine congrArg strOfNums (List.map_congr_left fun i hi => ?_)
  have hi' : i / 2 < 32 := by have := List.mem_range.1 hi; omega
  have e : Sha.dig f L (i / 2) = l.getD (i / 2) 0 := by
    rw [← h, Sha.digs_eq, List.getD_eq_getElem?_getD, List.getElem?_map, List.getElem?_range hi']; rfl
  unfold txtF
  rw [e]
theorem nums_list (l : List Int) : (strOfNums l).toList = l.map fun z => UInt8.ofNat z.toNat := by
  rw [ByteArray.toList_eq]
  show (strOfNums l).data.toList = _
  rw [strOfNums_data]
set_option maxRecDepth 100000 in
theorem abc_text : (str (txtF (Sha.dig Sha.fabc 3)) 64).toList = [98, 97, 55, 56, 49, 54, 98, 102, 56, 102, 48, 49, 99, 102, 101, 97, 52, 49, 52, 49, 52, 48, 100, 101, 53, 100, 97, 101, 50, 50, 50, 51, 98, 48, 48, 51, 54, 49, 97, 51, 57, 54, 49, 55, 55, 97, 57, 99, 98, 52, 49, 48, 102, 102, 54, 49, 102, 50, 48, 48, 49, 53, 97, 100] := by
  rw [txt_digs Sha.abc_digs, nums_list]
  decide +kernel
set_option maxRecDepth 100000 in
theorem none_text : (str (txtF (Sha.dig (fun _ => 0) 0)) 64).toList = [101, 51, 98, 48, 99, 52, 52, 50, 57, 56, 102, 99, 49, 99, 49, 52, 57, 97, 102, 98, 102, 52, 99, 56, 57, 57, 54, 102, 98, 57, 50, 52, 50, 55, 97, 101, 52, 49, 101, 52, 54, 52, 57, 98, 57, 51, 52, 99, 97, 52, 57, 53, 57, 57, 49, 98, 55, 56, 53, 50, 98, 56, 53, 53] := by
  rw [txt_digs Sha.none_digs, nums_list]
  decide +kernel
set_option maxRecDepth 100000 in
theorem f56_text : (str (txtF (Sha.dig Sha.f56 56)) 64).toList = [50, 52, 56, 100, 54, 97, 54, 49, 100, 50, 48, 54, 51, 56, 98, 56, 101, 53, 99, 48, 50, 54, 57, 51, 48, 99, 51, 101, 54, 48, 51, 57, 97, 51, 51, 99, 101, 52, 53, 57, 54, 52, 102, 102, 50, 49, 54, 55, 102, 54, 101, 99, 101, 100, 100, 52, 49, 57, 100, 98, 48, 54, 99, 49] := by
  rw [txt_digs Sha.f56_digs, nums_list]
  decide +kernel
set_option maxRecDepth 100000 in
theorem long_text : (str (txtF (Sha.dig (fun _ => 97) 1000)) 64).toList = [52, 49, 101, 100, 101, 99, 101, 52, 50, 100, 54, 51, 101, 56, 100, 57, 98, 102, 53, 49, 53, 97, 57, 98, 97, 54, 57, 51, 50, 101, 49, 99, 50, 48, 99, 98, 99, 57, 102, 53, 97, 53, 100, 49, 51, 52, 54, 52, 53, 97, 100, 98, 53, 100, 98, 49, 98, 57, 55, 51, 55, 101, 97, 51] := by
  rw [txt_digs Sha.long_digs, nums_list]
  decide +kernel
set_option maxRecDepth 100000 in
set_option maxHeartbeats 4000000 in
theorem wakes_any (w : World) (hk : KAt w) :
    Calls Tryd.prog 9 #[] w fun e w' => e = .returned (.bool true) ∧ Bw w w' := by
  obtain ⟨f, hf⟩ : ∃ f : Nat → Int, f = fun i => ((Sha.fabc i : Nat) : Int) := ⟨_, rfl⟩
  obtain ⟨W, hW⟩ : ∃ W, W = w.alloc (.cells #[.int .u8 97, .int .u8 98, .int .u8 99] 5 (3, 4)) := ⟨_, rfl⟩
  have hb : Bw w W := by rw [hW]; exact (Below.refl _ _).alloc (Nat.le_refl _) _
  have hr : RowAt W (some ⟨w.heap.size, 0, none⟩) 3 f := by
    refine ⟨Or.inr ⟨w.heap.size, 0, rfl, fun i hi => ?_⟩, fun i => ?_⟩
    · rw [hW, Nat.zero_add, cell_of_row _ _ i _ _ _ (heap_alloc_new w _), hf]
      have h' : i = 0 ∨ i = 1 ∨ i = 2 := by omega
      rcases h' with rfl | rfl | rfl <;> rfl
    · rw [hf]; have := Sha.fabc_lt i; show (0 : Int) ≤ ((Sha.fabc i : Nat) : Int) ∧ ((Sha.fabc i : Nat) : Int) < 256; omega
  have hkW := hk.keep hb
  have hnf : nbD f = Sha.fabc := by rw [hf]; funext i; exact Int.toNat_natCast _
  have kc := fun (w : World) (C : Array Value) (n c : Nat) => Lib.run_convert_bytes_const (P := Tryd.prog) w 22 5 C n c Tryd.underlying22 Tryd.underlying5
  clear hf
  subst hW
  go_enter Tryd.func9, Tryd.ntmps9
  go_wp2_with (first
    | (go_at_call 10; refine (pof_any _ 3 3 f (by omega) (by omega) (by omega) _ hr hkW).mono ?_; rintro e w1 ⟨T, rfl, hTs, hT, hw1⟩; rw [hnf] at hT; have hT' : Hid (∀ i, i < 32 → T[i]? = some (.int .u8 ((Sha.dig Sha.fabc 3 i : Nat) : Int))) := hT; clear hT)
    | (go_at_call 12; refine (ptext_any T _ (Sha.dig_lt _ _) hTs hT'.out _).mono ?_; rintro e w2 ⟨rfl, hw2⟩; obtain ⟨X, hX⟩ : ∃ X, Hid (X = str (txtF (Sha.dig Sha.fabc 3)) 64) := ⟨_, rfl⟩; rw [← hX.out]))
  go_ret
  refine ⟨ret_bool ?_, hb.trans (hw1.trans hw2)⟩
  rw [beq_iff_eq, hX.out]
  exact abc_text
end Go.Proofs.YtcpapaceggnaoaaDoor

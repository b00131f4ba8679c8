/- The node of a text: spec.TrieFind. -/
import Derived.Test.YtcanhkngikeeiaaN6
namespace Go.Proofs.Ytcanhkngikeeiaa
open Go.RowKit
set_option linter.unusedVariables false

theorem wrap_byte (b : UInt8) : wrap64 (b.toNat : Int) = (b.toNat : Int) := by
  have := b.toNat_lt
  unfold wrap64; omega
theorem findGo_step (ns : List Node) (t : ByteArray) (i k : Nat) (hi : i < ns.length) (hk : k < t.size) :
    findGo ns i (t.data.toList.drop k) = if kidOf ns (t[k].toNat : Int) ns[i].kids < 0 then -1 else findGo ns (kidOf ns (t[k].toNat : Int) ns[i].kids) (t.data.toList.drop (k + 1)) := by
  rw [List.drop_eq_getElem_cons (by simpa using hk)]
  have h1 : (ns.getD (i : Int).toNat default) = ns[i] := by simp [hi]
  have h2 : t.data.toList[k]'(by simpa using hk) = t[k] := by simp [ByteArray.getElem_eq_getElem_data]
  rw [findGo, h1, h2]

set_option maxRecDepth 100000 in
set_option maxHeartbeats 2000000 in
theorem specFind_any (a : Option Addr) (c : Nat) (ns : List Node) (t : ByteArray) (w : World) (hr : Nodes w a ns) (hm : ns.length ≤ 1048576) (hs : Small ns) (ht : t.size ≤ 1048576) :
    Calls Try.prog 35 #[.slice a ns.length c, .string t] w fun e w' => e = .returned (.int .i64 (findR ns t)) ∧ Below w.heap.size w w' := by
  have HR := Lib.hid hr
  have HS := Lib.hid hs
  clear hr hs
  cases hB : treeB ns
  · have HB := Lib.hid hB
    clear hB
    go_enter Try.func35, Try.ntmps35
    go_wp2_with fail
    refine (l1Tree_any a c ns _ HR.out hm HS.out).mono ?_
    rw [HB.out]
    rintro e w1 ⟨rfl, hb⟩
    go_wp2
    go_ret
    exact ⟨ret_int (by simp [findR, HB.out]), hb⟩
  · obtain ⟨hn1, hn2, hki⟩ := treeB_in hB
    have HB := Lib.hid hB
    have HKI : Hid (KidsIn ns) := Lib.hid hki
    clear hB hki
    go_enter Try.func35, Try.ntmps35
    go_wp2_with fail
    refine (l1Tree_any a c ns _ HR.out hm HS.out).mono ?_
    rw [HB.out]
    rintro e w1 ⟨rfl, hb⟩
    go_wp2
    go_loop [5, 6] (fun x i => ∃ at_ k : Nat, x = .int .i64 at_ ∧ i = .int .i64 k ∧ at_ < ns.length ∧ k ≤ t.size ∧ Hid (findR ns t = findGo ns at_ (t.data.toList.drop k))) (fun _ i => t.size - (intOf i).toNat)
    case atStart => exact ⟨0, 0, rfl, rfl, by omega, Nat.zero_le _, by unfold Hid; simp [findR, HB.out]⟩
    case round =>
      obtain ⟨at_, k, rfl, rfl, hat, hk, HF⟩ := hrel
      by_cases hlt : k < t.size
      · have hlt' : (k : Int) < (t.size : Int) := by omega
        have HST := Lib.hid (findGo_step ns t at_ k hat hlt)
        have hw := wrap_byte t[k]
        have hkin := kidOf_in (ns := ns) (b := (t[k].toNat : Int)) (ks := ns[at_].kids)
        have hkin2 : kidOf ns (t[k].toNat : Int) ns[at_].kids = -1 ∨ (0 < kidOf ns (t[k].toNat : Int) ns[at_].kids ∧ kidOf ns (t[k].toNat : Int) ns[at_].kids < ns.length) := by
          rcases hkin with h | h
          · exact .inl h
          · exact .inr (HKI.out _ (List.getElem_mem hat) _ h)
        clear hkin
        go_wp2_with fail
        refine (l1Kid_any a c ns at_ _ _ hat (HR.out.keep hb) hm HS.out HKI.out).mono ?_
        rintro e w2 ⟨rfl, rfl⟩
        clear hw
        generalize hkd : kidOf ns (t[k].toNat : Int) ns[at_].kids = kd at *
        clear hkd
        rcases hkin2 with rfl | ⟨h0, h1⟩
        · go_wp2
          go_ret
          refine ⟨?_, hb⟩
          rw [HF.out, HST.out]
          rfl
        · obtain ⟨kn, rfl⟩ : ∃ kn : Nat, kd = kn := ⟨kd.toNat, by omega⟩
          have hkn : ¬ (kn : Int) < 0 := by omega
          have HST2 := Lib.hid (show findGo ns at_ (t.data.toList.drop k) = findGo ns kn (t.data.toList.drop (k + 1)) by rw [HST.out, if_neg hkn])
          clear HST
          go_wp2
          go_round
          case rel => exact ⟨kn, k + 1, rfl, by go_num, by omega, by omega, HF.out.trans HST2.out⟩
          case measure => simp [intOf]; omega
      · have hlt' : ¬ (k : Int) < (t.size : Int) := by omega
        go_wp2
        go_ret
        refine ⟨?_, hb⟩
        rw [HF.out, List.drop_eq_nil_of_le (by simpa using hlt)]
        rfl

end Go.Proofs.Ytcanhkngikeeiaa

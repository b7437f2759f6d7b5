/-
  text.Code: what it hands back. Conditions: the bytes are fewer than 2^44.
-/
import Derived.Test.YtnbchnaehmbfcaaTextBuf
import Derived.Test.YtnbchnaehmbfcaaBytesW
import Derived.Test.YtnbchnaehmbfcaaBits
import Derived.Test.YtnbchnaehmbfcaaTextN
import Derived.WalkKit
import Derived.BigCall
import Derived.Lib.Hide
import Derived.Outline
import Derived.Deep.DeepMust
namespace Go.Proofs.Ytnbchnaehmbfcaa.TextCodeW
open Go.RowKit BytesW

set_option maxHeartbeats 2000000 in
set_option maxRecDepth 100000 in
theorem group_any (B : Nat) (A : Option Addr) (g l : List UInt8) (c : Nat) (w : World) (hA : Bs w B A g) (h1 : 1 ≤ g.length) (h3 : g.length ≤ 3) (hI : TextBuf.Buf B B l w) (hl : l.length + 4 ≤ 140737488355328) (hB : B ≤ w.heap.size) :
    Calls Try.prog 27 #[.pointer (some ⟨B, 0, none⟩), .slice A g.length c] w fun e w' => e = .returned (.tuple #[]) ∧ TextBuf.Buf B B (l ++ TextN.codeG g) w' ∧ Below B w w' := by
  go_enter Try.func27, Try.ntmps27
  go_wp2
  go_loop [4, 10] (fun v i => ∃ k : Nat, k ≤ g.length ∧ i = .int .i64 k ∧ v = .int .u32 (TextN.gv (g.take k) : Int)) (fun _ i => g.length - (intOf i).toNat)
  case atStart => exact ⟨0, Nat.zero_le _, rfl, rfl⟩
  case round =>
    obtain ⟨k, hk, rfl, rfl⟩ := hrel
    by_cases hlt : k < g.length
    · obtain ⟨ad, rfl, _, hc⟩ := hA.at_ hlt
      have hx := g[k].toNat_lt
      have Hs := Lib.hid (TextN.gv_snoc g k hlt (by omega))
      have Hl := Lib.hid (TextN.gv_low g k hk (by omega))
      have hV24 : TextN.gv (g.take k) < 16777216 := (TextN.gv_low g k hk (by omega)).2
      have hk3 : k = 0 ∨ k = 1 ∨ k = 2 := by omega
      generalize g[k] = x at *
      generalize gv0 : TextN.gv (g.take k) = V at *
      have HV := Lib.hid gv0; clear gv0
      rcases hk3 with rfl | rfl | rfl
      · rw [add_zero] at hc
        have HJ := Lib.hid (Bits.join_u32 24 V (x.toNat * 65536) (by decide) Hl.out.1 (by omega) (by omega))
        have HG : TextN.gv (g.take 1) = V + x.toNat * 65536 := Hs.out
        have HG' := Lib.hid HG; clear HG
        go_wp2
        go_round
        case rel => exact ⟨1, by omega, rfl, by rw [HG'.out, ← HJ.out]; rfl⟩
        case measure => first | (simp [intOf]; done) | (simp [intOf]; omega)
      · simp [Addr.add] at hc
        have HJ := Lib.hid (Bits.join_u32 16 V (x.toNat * 256) (by decide) Hl.out.1 (by omega) (by omega))
        have HG : TextN.gv (g.take 2) = V + x.toNat * 256 := Hs.out
        have HG' := Lib.hid HG; clear HG
        go_wp2
        go_round
        case rel => exact ⟨2, by omega, rfl, by rw [HG'.out, ← HJ.out]; rfl⟩
        case measure => first | (simp [intOf]; done) | (simp [intOf]; omega)
      · simp [Addr.add] at hc
        have HJ := Lib.hid (Bits.join_u32 8 V (x.toNat * 1) (by decide) Hl.out.1 (by omega) (by omega))
        have HG : TextN.gv (g.take 3) = V + x.toNat * 1 := Hs.out
        have HG' := Lib.hid HG; clear HG
        rw [Nat.mul_one] at HJ HG'
        go_wp2
        go_round
        case rel => exact ⟨3, by omega, rfl, by rw [HG'.out, ← HJ.out]⟩
        case measure => first | (simp [intOf]; done) | (simp [intOf]; omega)
    · obtain rfl : k = g.length := by omega
      rw [List.take_length]
      have hV := TextN.gv_lt g
      have hcg : TextN.codeG g = (TextN.four (TextN.gv g)).take (g.length + 1) := rfl
      have Hcg := Lib.hid hcg; clear hcg
      generalize TextN.gv g = V at *
      go_wp2
      go_loopw [27] (fun i w2 => ∃ k : Nat, k ≤ g.length + 1 ∧ i = .int .i64 k ∧ TextBuf.Buf B B (l ++ (TextN.four V).take k) w2 ∧ Below B w w2) (fun i _ => g.length + 1 - (intOf i).toNat)
      case atStart => exact ⟨0, by omega, rfl, by simpa using hI, Below.refl _ _⟩
      case round =>
        clear hI
        obtain ⟨k, hk1, rfl, hI, hb⟩ := hrel
        have hB2 := hb.size
        by_cases hlt : k < g.length + 1
        · have hk4 : k = 0 ∨ k = 1 ∨ k = 2 ∨ k = 3 := by omega
          rcases hk4 with rfl | rfl | rfl | rfl
          · have ha := Bits.and63 (V / 262144) (by omega)
            rw [show ((V / 262144 : Nat) : Int) = (V : Int) / 262144 from by omega] at ha
            go_wp2_with fail
            refine (TextBuf.write B B _ _ _ rfl wr hI (by rw [List.length_append, List.length_take]; omega) (by omega)).mono ?_
            rintro e w2 ⟨rfl, h2, b2⟩
            rw [TextN.letters_at _ (by omega)] at h2
            clear ha
            go_wp2
            go_roundw
            case rel => exact ⟨1, by omega, rfl, by rw [List.append_assoc] at h2; exact h2, hb.trans b2⟩
            case measure => first | (simp [intOf]; done) | (simp [intOf]; omega)
          · have ha := Bits.and63 (V / 4096) (by omega)
            rw [show ((V / 4096 : Nat) : Int) = (V : Int) / 4096 from by omega] at ha
            go_wp2_with fail
            refine (TextBuf.write B B _ _ _ rfl wr hI (by rw [List.length_append, List.length_take]; omega) (by omega)).mono ?_
            rintro e w2 ⟨rfl, h2, b2⟩
            rw [TextN.letters_at _ (by omega)] at h2
            clear ha
            go_wp2
            go_roundw
            case rel => exact ⟨2, by omega, rfl, by rw [List.append_assoc] at h2; exact h2, hb.trans b2⟩
            case measure => first | (simp [intOf]; done) | (simp [intOf]; omega)
          · have ha := Bits.and63 (V / 64) (by omega)
            rw [show ((V / 64 : Nat) : Int) = (V : Int) / 64 from by omega] at ha
            go_wp2_with fail
            refine (TextBuf.write B B _ _ _ rfl wr hI (by rw [List.length_append, List.length_take]; omega) (by omega)).mono ?_
            rintro e w2 ⟨rfl, h2, b2⟩
            rw [TextN.letters_at _ (by omega)] at h2
            clear ha
            go_wp2
            go_roundw
            case rel => exact ⟨3, by omega, rfl, by rw [List.append_assoc] at h2; exact h2, hb.trans b2⟩
            case measure => first | (simp [intOf]; done) | (simp [intOf]; omega)
          · have ha := Bits.and63 V (by omega)
            go_wp2_with fail
            refine (TextBuf.write B B _ _ _ rfl wr hI (by rw [List.length_append, List.length_take]; omega) (by omega)).mono ?_
            rintro e w2 ⟨rfl, h2, b2⟩
            rw [TextN.letters_at _ (by omega)] at h2
            clear ha
            go_wp2
            go_roundw
            case rel => exact ⟨4, by omega, rfl, by rw [List.append_assoc] at h2; exact h2, hb.trans b2⟩
            case measure => first | (simp [intOf]; done) | (simp [intOf]; omega)
        · obtain rfl : k = g.length + 1 := by omega
          go_wp2
          go_end0
          exact ⟨rfl, by rw [Hcg.out]; exact hI, hb⟩

/-- The length of a slice's value. -/
def sliceLen : Value → Nat
  | .slice _ n _ => n
  | _ => 0

set_option maxHeartbeats 2000000 in
set_option maxRecDepth 100000 in
theorem code_any (A : Option Addr) (l : List UInt8) (c : Nat) (w : World) (hA : Bs w w.heap.size A l) (hl : l.length ≤ 17592186044416) (hcap : l.length ≤ c) :
    Calls Try.prog 17 #[.slice A l.length c] w fun e w' => e = .returned (.string ⟨(TextN.code l).toArray⟩) ∧ Below w.heap.size w w' := by
  go_enter Try.func17, Try.ntmps17
  go_wp2_with fail
  refine (TextBuf.grow w.heap.size ((4 * l.length + 2) / 3) w rfl (by omega)).mono ?_
  rintro e w1 ⟨rfl, h1, b1⟩
  go_wp2
  go_loopw [0] (fun s wr => ∃ (A' : Option Addr) (c' : Nat) (rest pre : List UInt8), s = .slice A' rest.length c' ∧ rest.length ≤ c' ∧ Bs wr w.heap.size A' rest ∧
      TextBuf.Buf w.heap.size w.heap.size pre wr ∧ pre ++ TextN.code rest = TextN.code l ∧ pre.length + 4 * rest.length ≤ 4 * l.length ∧ Below w.heap.size w wr) (fun s _ => sliceLen s)
  case atStart => exact ⟨A, c, l, [], rfl, hcap, hA.below b1, h1, rfl, by simp, b1⟩
  case round =>
    obtain ⟨A', c', rest, pre, rfl, hc', hR, hI, hF, hb4, hb⟩ := hrel
    have HF := Lib.hid hF; clear hF hA h1 b1
    have hBs := hb.size
    by_cases hr : rest = []
    · subst hr
      rw [show TextN.code [] = [] from rfl, List.append_nil] at HF
      obtain rfl := HF.out
      go_wp2_with fail
      refine (TextBuf.text w.heap.size w.heap.size _ wr hI hBs).mono ?_
      rintro e w2 ⟨rfl, b2⟩
      go_wp2
      go_ret
      exact ⟨rfl, hb.trans b2⟩
    · have hpos : 0 < rest.length := List.length_pos_iff.2 hr
      have Hr := Lib.hid hr; clear hr
      by_cases h3 : rest.length ≤ 3
      · have hmin : min (rest.length : Int) 3 = (rest.length : Int) := by omega
        have ht : rest.take 3 = rest := List.take_of_length_le h3
        have hd : rest.drop 3 = [] := List.drop_of_length_le h3
        have HS := Lib.hid (TextN.code_step rest Hr.out)
        rw [ht, hd] at HS
        clear ht hd
        go_wp2_with fail
        refine (group_any w.heap.size A' rest pre c' wr hR hpos h3 hI (by omega) hBs).mono ?_
        rintro e w2 ⟨rfl, h2, b2⟩
        go_wp2
        have hlc := TextN.codeG_length rest h3
        go_roundw
        case rel => exact ⟨_, c' - rest.length, [], _, rfl, by simp, Bs.nil _ _ _, h2, by rw [List.append_assoc, ← HS.out]; exact HF.out, by rw [List.length_append, List.length_nil]; omega, hb.trans b2⟩
        case measure => exact hpos
      · have hmin : min (rest.length : Int) 3 = 3 := by omega
        have HS := Lib.hid (TextN.code_step rest Hr.out)
        have hl3 : (rest.take 3).length = 3 := by rw [List.length_take]; omega
        have hgr := group_any w.heap.size A' (rest.take 3) pre c' wr (hR.take 3) (by omega) (by omega) hI (by omega) hBs
        rw [hl3] at hgr
        have HG := Lib.hid hgr; clear hgr hl3
        go_wp2_with fail
        refine HG.out.mono ?_
        rintro e w2 ⟨rfl, h2, b2⟩
        go_wp2
        have hlc := TextN.codeG_length (rest.take 3) (by rw [List.length_take]; omega)
        rw [List.length_take, Nat.min_eq_left (by omega)] at hlc
        have hR3 := (hR.below b2).drop 3
        go_roundw
        case rel => exact ⟨_, c' - 3, rest.drop 3, _, by rw [List.length_drop]; rfl, by rw [List.length_drop]; omega, hR3, h2, by rw [List.append_assoc, ← HS.out]; exact HF.out, by rw [List.length_append, List.length_drop]; omega, hb.trans b2⟩
        case measure => show rest.length - 3 < rest.length; omega

end Go.Proofs.Ytnbchnaehmbfcaa.TextCodeW

/- Calls that are drawn: the two draws. No condition. -/
import Derived.Test.YtonnffilcmlodaaV7b
namespace Go.Proofs.Ytonnffilcmlodaa
open Go.RowKit

set_option maxRecDepth 100000 in
theorem drawValidCalls_any (A : Option Addr) (c : Nat) (zs : List Int) (w : World) (hr : Own w 0 w.heap.size A (zs.map (Value.int .u8))) (hx : zs.length ≤ c ∧ c ≤ maxLen ∧ ∀ z ∈ zs, (Lit.int .u8 z).wf = true) :
    Calls Try.prog 14 #[.slice A zs.length c] w fun e w' => ∃ (n : Int) (A : Option Addr) (c : Nat) (rs : List (List Int)),
      e = .returned (.tuple #[.int .i64 n, .slice A rs.length c]) ∧ DrG w n A c rs w' := by
  have H := Lib.hid hx
  clear hx
  go_enter Try.func14, Try.ntmps14
  go_wp2_with fail
  refine (newReader_any _ _ _ _ hr H.out).mono ?_
  rintro e w1 ⟨rfl, hrd, hb1⟩
  have hz1 := hb1.size
  go_wp2_with fail
  refine (someCalls_any _ _ w1 hrd (by omega)).mono ?_
  rintro e w2 ⟨n, A2, c2, rs, rfl, hn, hl, hcap, htw, hdr, hgr, hg2⟩
  have HF := Lib.hid (show DrG w n A2 c2 rs w2 from ⟨hn, hl, hcap, htw, hdr, hgr, hb1.grown hg2 hz1 (fun i hi => by injection hi with hi; omega)⟩)
  clear hn hl hcap htw hdr hgr hg2 hrd
  go_wp2_with fail
  go_ret2
  exact ⟨n, A2, c2, rs, rfl, HF.out⟩

set_option maxRecDepth 100000 in
theorem drawKnownAfter_any (A : Option Addr) (c : Nat) (zs : List Int) (w : World) (hr : Own w 0 w.heap.size A (zs.map (Value.int .u8))) (hx : zs.length ≤ c ∧ c ≤ maxLen ∧ ∀ z ∈ zs, (Lit.int .u8 z).wf = true) :
    Calls Try.prog 17 #[.slice A zs.length c] w fun e w' => ∃ (n : Int) (A : Option Addr) (c : Nat) (rs : List (List Int)),
      e = .returned (.tuple #[.int .i64 n, .slice A rs.length c]) ∧ DrG w n A c rs w' := by
  have H := Lib.hid hx
  clear hx
  go_enter Try.func17, Try.ntmps17
  go_wp2_with fail
  refine (newReader_any _ _ _ _ hr H.out).mono ?_
  rintro e w1 ⟨rfl, hrd, hb1⟩
  have hz1 := hb1.size
  go_wp2_with fail
  refine (someCalls_any _ _ w1 hrd (by omega)).mono ?_
  rintro e w2 ⟨n, A2, c2, rs, rfl, hn, hl, hcap, htw, hdr, hgr, hg2⟩
  have HF := Lib.hid (show DrG w n A2 c2 rs w2 from ⟨hn, hl, hcap, htw, hdr, hgr, hb1.grown hg2 hz1 (fun i hi => by injection hi with hi; omega)⟩)
  clear hn hl hcap htw hdr hgr hg2 hrd
  go_wp2_with fail
  go_ret2
  exact ⟨n, A2, c2, rs, rfl, HF.out⟩
end Go.Proofs.Ytonnffilcmlodaa

import Derived.Test.YteghoooelgcpkaaGreatDoorM26
import Derived.Test.YteghoooelgcpkaaGreatDoorM27
import Derived.Test.YteghoooelgcpkaaGreatDoorM28
import Derived.Test.YteghoooelgcpkaaGreatDoorM29
import Derived.Test.YteghoooelgcpkaaGreatDoorM30
namespace Go.Proofs.YteghoooelgcpkaaGreatDoor
open Go.RowKit Go.Msg
theorem hear_f (pv : Value) (x : Sd) (hx : x.Wf) (vS vP vD : Value) (m data : ByteArray) (hms : m.size ≤ 9223372036854775807) (hdt : data.size ≤ 100) (w : World) (hpv : PrimAt w pv) (hS : KpsAt w vS x.saved) (hP : StrsAt w vP x.past) (hD : StrsAt w vD x.draws) :
    Calls Tryz.prog 31 #[pv, .agg (sideC x vS vP vD), .string m, .string data] w fun e w' => HearP w vS vP vD (hearS x m data) e w' := by
  by_cases hm : IsMsg m
  · by_cases hf : x.saved.findIdx? (isK (ptF m).point (ptF m).n) = none
    · by_cases hth : x.theirs = (ptF m).point
      · exact hear_same pv x hx vS vP vD m data hms hm hdt hf hth w hpv hS hP hD
      · by_cases hr : x.read.size = 0
        · by_cases ht : x.theirs.size = 0
          · exact hear_newC pv x hx vS vP vD m data hms hm hdt hf hth hr ht w hpv hS hP hD
          · exact hear_newB pv x hx vS vP vD m data hms hm hdt hf hth hr ht w hpv hS hP hD
        · exact hear_newA pv x hx vS vP vD m data hms hm hdt hf hth hr w hpv hS hP hD
    · exact hear_key pv x hx vS vP vD m data hms hm hdt hf w hpv hS hP hD
  · exact hear_bad pv x vS vP vD m data hms hm w hS hP hD
end Go.Proofs.YteghoooelgcpkaaGreatDoor

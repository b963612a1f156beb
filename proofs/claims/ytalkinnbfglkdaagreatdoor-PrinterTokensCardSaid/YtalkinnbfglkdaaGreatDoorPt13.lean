/-
  Layer 10: the reference's empty and zero. (Written by wip/gen/syn-r6.py.)
-/
import Derived.Test.YtalkinnbfglkdaaGreatDoorPt8
namespace Go.Proofs.YtalkinnbfglkdaaGreatDoor.Syn
open Go.RowKit Go.Proofs.YtalkinnbfglkdaaGreatDoor.Shape
set_option linter.unusedVariables false
set_option linter.unusedSimpArgs false
set_option maxRecDepth 100000
theorem zA_at (w:World):ArrAt w (.agg #[.int .i64 0,.slice none 0 0,.slice none 0 0,.slice none 0 0]) zA:=by
 unfold zA
 rw [ArrAt]
 have hi:IntsAt w none 0 []:=⟨Nat.zero_le _,by decide,fun x hx=>absurd hx (by simp),0,0,fun h=>absurd rfl h,fun i hi=>absurd hi (by simp)⟩
 exact ⟨none,0,none,0,none,0,rfl,⟨by decide,by decide⟩,hi,hi,by simp,by decide,0,0,fun h=>absurd rfl h,by rw [ArrsAt];trivial⟩
def zNv:List Value:=[.int .i64 0,.int .i64 0,.int .i64 0,.string ⟨#[]⟩,.int .i64 0,.int .i64 0,.int .i64 0,.slice none 0 0,.slice none 0 0,.slice none 0 0,.slice none 0 0,.slice none 0 0,.int .i64 0,.int .i64 0,.int .i64 0]
theorem zN_at (w:World):NdV w zNv zN:=by
 unfold zN
 rw [NdV]
 have z:I64 0:=⟨by decide,by decide⟩
 exact ⟨_,_,_,_,none,0,none,0,rfl,⟨z,z,z,z,z,z,z,z⟩,by decide,zA_at w,⟨Nat.zero_le _,by decide⟩,⟨Nat.zero_le _,by decide⟩,⟨0,0,fun h=>absurd rfl h,by rw [NdsAt];trivial⟩,⟨0,0,fun h=>absurd rfl h,by rw [StsAt];trivial⟩⟩
end Go.Proofs.YtalkinnbfglkdaaGreatDoor.Syn

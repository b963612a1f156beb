/-
  Layer 8: which words are reserved, by the program. (Written by wip/gen/token-res.py.)
-/
import Derived.Test.YtalkinnbfglkdaaGreatDoorPt3
import Derived.Test.YtalkinnbfglkdaaGreatDoorPt8
set_option maxHeartbeats 4000000
namespace Go.Proofs.YtalkinnbfglkdaaGreatDoor.Tok
open Go.RowKit
set_option linter.unusedVariables false
set_option linter.unusedSimpArgs false
set_option maxRecDepth 100000
theorem res_0 (s:ByteArray) (w:World)  (h0:(s.toList==[88])=true):Calls Tryz.prog 42 #[.string s] w fun e w'=>e=.returned (.bool true)/\w=w':=by
 go_enter Tryz.func42,Tryz.ntmps42
 go_wp2
 go_ret
 exact ⟨rfl,rfl⟩
theorem res_1 (s:ByteArray) (w:World) (h0:(s.toList==[88])=false) (h1:(s.toList==[89])=true):Calls Tryz.prog 42 #[.string s] w fun e w'=>e=.returned (.bool true)/\w=w':=by
 go_enter Tryz.func42,Tryz.ntmps42
 go_wp2
 go_ret
 exact ⟨rfl,rfl⟩
theorem res_2 (s:ByteArray) (w:World) (h0:(s.toList==[88])=false) (h1:(s.toList==[89])=false) (h2:(s.toList==[70])=true):Calls Tryz.prog 42 #[.string s] w fun e w'=>e=.returned (.bool true)/\w=w':=by
 go_enter Tryz.func42,Tryz.ntmps42
 go_wp2
 go_ret
 exact ⟨rfl,rfl⟩
theorem res_3 (s:ByteArray) (w:World) (h0:(s.toList==[88])=false) (h1:(s.toList==[89])=false) (h2:(s.toList==[70])=false) (h3:(s.toList==[71])=true):Calls Tryz.prog 42 #[.string s] w fun e w'=>e=.returned (.bool true)/\w=w':=by
 go_enter Tryz.func42,Tryz.ntmps42
 go_wp2
 go_ret
 exact ⟨rfl,rfl⟩
theorem res_4 (s:ByteArray) (w:World) (h0:(s.toList==[88])=false) (h1:(s.toList==[89])=false) (h2:(s.toList==[70])=false) (h3:(s.toList==[71])=false) (h4:(s.toList==[115,101,108,102])=true):Calls Tryz.prog 42 #[.string s] w fun e w'=>e=.returned (.bool true)/\w=w':=by
 go_enter Tryz.func42,Tryz.ntmps42
 go_wp2
 go_ret
 exact ⟨rfl,rfl⟩
theorem res_5 (s:ByteArray) (w:World) (h0:(s.toList==[88])=false) (h1:(s.toList==[89])=false) (h2:(s.toList==[70])=false) (h3:(s.toList==[71])=false) (h4:(s.toList==[115,101,108,102])=false) (h5:(s.toList==[97,114,103])=true):Calls Tryz.prog 42 #[.string s] w fun e w'=>e=.returned (.bool true)/\w=w':=by
 go_enter Tryz.func42,Tryz.ntmps42
 go_wp2
 go_ret
 exact ⟨rfl,rfl⟩
theorem res_6 (s:ByteArray) (w:World) (h0:(s.toList==[88])=false) (h1:(s.toList==[89])=false) (h2:(s.toList==[70])=false) (h3:(s.toList==[71])=false) (h4:(s.toList==[115,101,108,102])=false) (h5:(s.toList==[97,114,103])=false) (h6:(s.toList==[43])=true):Calls Tryz.prog 42 #[.string s] w fun e w'=>e=.returned (.bool true)/\w=w':=by
 go_enter Tryz.func42,Tryz.ntmps42
 go_wp2
 go_ret
 exact ⟨rfl,rfl⟩
theorem res_7 (s:ByteArray) (w:World) (h0:(s.toList==[88])=false) (h1:(s.toList==[89])=false) (h2:(s.toList==[70])=false) (h3:(s.toList==[71])=false) (h4:(s.toList==[115,101,108,102])=false) (h5:(s.toList==[97,114,103])=false) (h6:(s.toList==[43])=false) (h7:(s.toList==[45])=true):Calls Tryz.prog 42 #[.string s] w fun e w'=>e=.returned (.bool true)/\w=w':=by
 go_enter Tryz.func42,Tryz.ntmps42
 go_wp2
 go_ret
 exact ⟨rfl,rfl⟩
theorem res_8 (s:ByteArray) (w:World) (h0:(s.toList==[88])=false) (h1:(s.toList==[89])=false) (h2:(s.toList==[70])=false) (h3:(s.toList==[71])=false) (h4:(s.toList==[115,101,108,102])=false) (h5:(s.toList==[97,114,103])=false) (h6:(s.toList==[43])=false) (h7:(s.toList==[45])=false) (h8:(s.toList==[42])=true):Calls Tryz.prog 42 #[.string s] w fun e w'=>e=.returned (.bool true)/\w=w':=by
 go_enter Tryz.func42,Tryz.ntmps42
 go_wp2
 go_ret
 exact ⟨rfl,rfl⟩
theorem res_9 (s:ByteArray) (w:World) (h0:(s.toList==[88])=false) (h1:(s.toList==[89])=false) (h2:(s.toList==[70])=false) (h3:(s.toList==[71])=false) (h4:(s.toList==[115,101,108,102])=false) (h5:(s.toList==[97,114,103])=false) (h6:(s.toList==[43])=false) (h7:(s.toList==[45])=false) (h8:(s.toList==[42])=false) (h9:(s.toList==[37])=true):Calls Tryz.prog 42 #[.string s] w fun e w'=>e=.returned (.bool true)/\w=w':=by
 go_enter Tryz.func42,Tryz.ntmps42
 go_wp2
 go_ret
 exact ⟨rfl,rfl⟩
theorem res_10 (s:ByteArray) (w:World) (h0:(s.toList==[88])=false) (h1:(s.toList==[89])=false) (h2:(s.toList==[70])=false) (h3:(s.toList==[71])=false) (h4:(s.toList==[115,101,108,102])=false) (h5:(s.toList==[97,114,103])=false) (h6:(s.toList==[43])=false) (h7:(s.toList==[45])=false) (h8:(s.toList==[42])=false) (h9:(s.toList==[37])=false) (h10:(s.toList==[124])=true):Calls Tryz.prog 42 #[.string s] w fun e w'=>e=.returned (.bool true)/\w=w':=by
 go_enter Tryz.func42,Tryz.ntmps42
 go_wp2
 go_ret
 exact ⟨rfl,rfl⟩
theorem res_11 (s:ByteArray) (w:World) (h0:(s.toList==[88])=false) (h1:(s.toList==[89])=false) (h2:(s.toList==[70])=false) (h3:(s.toList==[71])=false) (h4:(s.toList==[115,101,108,102])=false) (h5:(s.toList==[97,114,103])=false) (h6:(s.toList==[43])=false) (h7:(s.toList==[45])=false) (h8:(s.toList==[42])=false) (h9:(s.toList==[37])=false) (h10:(s.toList==[124])=false) (h11:(s.toList==[94])=true):Calls Tryz.prog 42 #[.string s] w fun e w'=>e=.returned (.bool true)/\w=w':=by
 go_enter Tryz.func42,Tryz.ntmps42
 go_wp2
 go_ret
 exact ⟨rfl,rfl⟩
theorem res_12 (s:ByteArray) (w:World) (h0:(s.toList==[88])=false) (h1:(s.toList==[89])=false) (h2:(s.toList==[70])=false) (h3:(s.toList==[71])=false) (h4:(s.toList==[115,101,108,102])=false) (h5:(s.toList==[97,114,103])=false) (h6:(s.toList==[43])=false) (h7:(s.toList==[45])=false) (h8:(s.toList==[42])=false) (h9:(s.toList==[37])=false) (h10:(s.toList==[124])=false) (h11:(s.toList==[94])=false) (h12:(s.toList==[109,105,110])=true):Calls Tryz.prog 42 #[.string s] w fun e w'=>e=.returned (.bool true)/\w=w':=by
 go_enter Tryz.func42,Tryz.ntmps42
 go_wp2
 go_ret
 exact ⟨rfl,rfl⟩
theorem res_13 (s:ByteArray) (w:World) (h0:(s.toList==[88])=false) (h1:(s.toList==[89])=false) (h2:(s.toList==[70])=false) (h3:(s.toList==[71])=false) (h4:(s.toList==[115,101,108,102])=false) (h5:(s.toList==[97,114,103])=false) (h6:(s.toList==[43])=false) (h7:(s.toList==[45])=false) (h8:(s.toList==[42])=false) (h9:(s.toList==[37])=false) (h10:(s.toList==[124])=false) (h11:(s.toList==[94])=false) (h12:(s.toList==[109,105,110])=false) (h13:(s.toList==[109,97,120])=true):Calls Tryz.prog 42 #[.string s] w fun e w'=>e=.returned (.bool true)/\w=w':=by
 go_enter Tryz.func42,Tryz.ntmps42
 go_wp2
 go_ret
 exact ⟨rfl,rfl⟩
theorem res_14 (s:ByteArray) (w:World) (h0:(s.toList==[88])=false) (h1:(s.toList==[89])=false) (h2:(s.toList==[70])=false) (h3:(s.toList==[71])=false) (h4:(s.toList==[115,101,108,102])=false) (h5:(s.toList==[97,114,103])=false) (h6:(s.toList==[43])=false) (h7:(s.toList==[45])=false) (h8:(s.toList==[42])=false) (h9:(s.toList==[37])=false) (h10:(s.toList==[124])=false) (h11:(s.toList==[94])=false) (h12:(s.toList==[109,105,110])=false) (h13:(s.toList==[109,97,120])=false) (h14:(s.toList==[60])=true):Calls Tryz.prog 42 #[.string s] w fun e w'=>e=.returned (.bool true)/\w=w':=by
 go_enter Tryz.func42,Tryz.ntmps42
 go_wp2
 go_ret
 exact ⟨rfl,rfl⟩
theorem res_15 (s:ByteArray) (w:World) (h0:(s.toList==[88])=false) (h1:(s.toList==[89])=false) (h2:(s.toList==[70])=false) (h3:(s.toList==[71])=false) (h4:(s.toList==[115,101,108,102])=false) (h5:(s.toList==[97,114,103])=false) (h6:(s.toList==[43])=false) (h7:(s.toList==[45])=false) (h8:(s.toList==[42])=false) (h9:(s.toList==[37])=false) (h10:(s.toList==[124])=false) (h11:(s.toList==[94])=false) (h12:(s.toList==[109,105,110])=false) (h13:(s.toList==[109,97,120])=false) (h14:(s.toList==[60])=false) (h15:(s.toList==[60,61])=true):Calls Tryz.prog 42 #[.string s] w fun e w'=>e=.returned (.bool true)/\w=w':=by
 go_enter Tryz.func42,Tryz.ntmps42
 go_wp2
 go_ret
 exact ⟨rfl,rfl⟩
theorem res_16 (s:ByteArray) (w:World) (h0:(s.toList==[88])=false) (h1:(s.toList==[89])=false) (h2:(s.toList==[70])=false) (h3:(s.toList==[71])=false) (h4:(s.toList==[115,101,108,102])=false) (h5:(s.toList==[97,114,103])=false) (h6:(s.toList==[43])=false) (h7:(s.toList==[45])=false) (h8:(s.toList==[42])=false) (h9:(s.toList==[37])=false) (h10:(s.toList==[124])=false) (h11:(s.toList==[94])=false) (h12:(s.toList==[109,105,110])=false) (h13:(s.toList==[109,97,120])=false) (h14:(s.toList==[60])=false) (h15:(s.toList==[60,61])=false) (h16:(s.toList==[61])=true):Calls Tryz.prog 42 #[.string s] w fun e w'=>e=.returned (.bool true)/\w=w':=by
 go_enter Tryz.func42,Tryz.ntmps42
 go_wp2
 go_ret
 exact ⟨rfl,rfl⟩
theorem res_17 (s:ByteArray) (w:World) (h0:(s.toList==[88])=false) (h1:(s.toList==[89])=false) (h2:(s.toList==[70])=false) (h3:(s.toList==[71])=false) (h4:(s.toList==[115,101,108,102])=false) (h5:(s.toList==[97,114,103])=false) (h6:(s.toList==[43])=false) (h7:(s.toList==[45])=false) (h8:(s.toList==[42])=false) (h9:(s.toList==[37])=false) (h10:(s.toList==[124])=false) (h11:(s.toList==[94])=false) (h12:(s.toList==[109,105,110])=false) (h13:(s.toList==[109,97,120])=false) (h14:(s.toList==[60])=false) (h15:(s.toList==[60,61])=false) (h16:(s.toList==[61])=false) (h17:(s.toList==[126,61])=true):Calls Tryz.prog 42 #[.string s] w fun e w'=>e=.returned (.bool true)/\w=w':=by
 go_enter Tryz.func42,Tryz.ntmps42
 go_wp2
 go_ret
 exact ⟨rfl,rfl⟩
theorem res_18 (s:ByteArray) (w:World) (h0:(s.toList==[88])=false) (h1:(s.toList==[89])=false) (h2:(s.toList==[70])=false) (h3:(s.toList==[71])=false) (h4:(s.toList==[115,101,108,102])=false) (h5:(s.toList==[97,114,103])=false) (h6:(s.toList==[43])=false) (h7:(s.toList==[45])=false) (h8:(s.toList==[42])=false) (h9:(s.toList==[37])=false) (h10:(s.toList==[124])=false) (h11:(s.toList==[94])=false) (h12:(s.toList==[109,105,110])=false) (h13:(s.toList==[109,97,120])=false) (h14:(s.toList==[60])=false) (h15:(s.toList==[60,61])=false) (h16:(s.toList==[61])=false) (h17:(s.toList==[126,61])=false) (h18:(s.toList==[62,61])=true):Calls Tryz.prog 42 #[.string s] w fun e w'=>e=.returned (.bool true)/\w=w':=by
 go_enter Tryz.func42,Tryz.ntmps42
 go_wp2
 go_ret
 exact ⟨rfl,rfl⟩
theorem res_19 (s:ByteArray) (w:World) (h0:(s.toList==[88])=false) (h1:(s.toList==[89])=false) (h2:(s.toList==[70])=false) (h3:(s.toList==[71])=false) (h4:(s.toList==[115,101,108,102])=false) (h5:(s.toList==[97,114,103])=false) (h6:(s.toList==[43])=false) (h7:(s.toList==[45])=false) (h8:(s.toList==[42])=false) (h9:(s.toList==[37])=false) (h10:(s.toList==[124])=false) (h11:(s.toList==[94])=false) (h12:(s.toList==[109,105,110])=false) (h13:(s.toList==[109,97,120])=false) (h14:(s.toList==[60])=false) (h15:(s.toList==[60,61])=false) (h16:(s.toList==[61])=false) (h17:(s.toList==[126,61])=false) (h18:(s.toList==[62,61])=false) (h19:(s.toList==[62])=true):Calls Tryz.prog 42 #[.string s] w fun e w'=>e=.returned (.bool true)/\w=w':=by
 go_enter Tryz.func42,Tryz.ntmps42
 go_wp2
 go_ret
 exact ⟨rfl,rfl⟩
theorem res_20 (s:ByteArray) (w:World) (h0:(s.toList==[88])=false) (h1:(s.toList==[89])=false) (h2:(s.toList==[70])=false) (h3:(s.toList==[71])=false) (h4:(s.toList==[115,101,108,102])=false) (h5:(s.toList==[97,114,103])=false) (h6:(s.toList==[43])=false) (h7:(s.toList==[45])=false) (h8:(s.toList==[42])=false) (h9:(s.toList==[37])=false) (h10:(s.toList==[124])=false) (h11:(s.toList==[94])=false) (h12:(s.toList==[109,105,110])=false) (h13:(s.toList==[109,97,120])=false) (h14:(s.toList==[60])=false) (h15:(s.toList==[60,61])=false) (h16:(s.toList==[61])=false) (h17:(s.toList==[126,61])=false) (h18:(s.toList==[62,61])=false) (h19:(s.toList==[62])=false) (h20:(s.toList==[97,110,100])=true):Calls Tryz.prog 42 #[.string s] w fun e w'=>e=.returned (.bool true)/\w=w':=by
 go_enter Tryz.func42,Tryz.ntmps42
 go_wp2
 go_ret
 exact ⟨rfl,rfl⟩
theorem res_21 (s:ByteArray) (w:World) (h0:(s.toList==[88])=false) (h1:(s.toList==[89])=false) (h2:(s.toList==[70])=false) (h3:(s.toList==[71])=false) (h4:(s.toList==[115,101,108,102])=false) (h5:(s.toList==[97,114,103])=false) (h6:(s.toList==[43])=false) (h7:(s.toList==[45])=false) (h8:(s.toList==[42])=false) (h9:(s.toList==[37])=false) (h10:(s.toList==[124])=false) (h11:(s.toList==[94])=false) (h12:(s.toList==[109,105,110])=false) (h13:(s.toList==[109,97,120])=false) (h14:(s.toList==[60])=false) (h15:(s.toList==[60,61])=false) (h16:(s.toList==[61])=false) (h17:(s.toList==[126,61])=false) (h18:(s.toList==[62,61])=false) (h19:(s.toList==[62])=false) (h20:(s.toList==[97,110,100])=false) (h21:(s.toList==[111,114])=true):Calls Tryz.prog 42 #[.string s] w fun e w'=>e=.returned (.bool true)/\w=w':=by
 go_enter Tryz.func42,Tryz.ntmps42
 go_wp2
 go_ret
 exact ⟨rfl,rfl⟩
theorem res_22 (s:ByteArray) (w:World) (h0:(s.toList==[88])=false) (h1:(s.toList==[89])=false) (h2:(s.toList==[70])=false) (h3:(s.toList==[71])=false) (h4:(s.toList==[115,101,108,102])=false) (h5:(s.toList==[97,114,103])=false) (h6:(s.toList==[43])=false) (h7:(s.toList==[45])=false) (h8:(s.toList==[42])=false) (h9:(s.toList==[37])=false) (h10:(s.toList==[124])=false) (h11:(s.toList==[94])=false) (h12:(s.toList==[109,105,110])=false) (h13:(s.toList==[109,97,120])=false) (h14:(s.toList==[60])=false) (h15:(s.toList==[60,61])=false) (h16:(s.toList==[61])=false) (h17:(s.toList==[126,61])=false) (h18:(s.toList==[62,61])=false) (h19:(s.toList==[62])=false) (h20:(s.toList==[97,110,100])=false) (h21:(s.toList==[111,114])=false) (h22:(s.toList==[110,111,116])=true):Calls Tryz.prog 42 #[.string s] w fun e w'=>e=.returned (.bool true)/\w=w':=by
 go_enter Tryz.func42,Tryz.ntmps42
 go_wp2
 go_ret
 exact ⟨rfl,rfl⟩
theorem res_23 (s:ByteArray) (w:World) (h0:(s.toList==[88])=false) (h1:(s.toList==[89])=false) (h2:(s.toList==[70])=false) (h3:(s.toList==[71])=false) (h4:(s.toList==[115,101,108,102])=false) (h5:(s.toList==[97,114,103])=false) (h6:(s.toList==[43])=false) (h7:(s.toList==[45])=false) (h8:(s.toList==[42])=false) (h9:(s.toList==[37])=false) (h10:(s.toList==[124])=false) (h11:(s.toList==[94])=false) (h12:(s.toList==[109,105,110])=false) (h13:(s.toList==[109,97,120])=false) (h14:(s.toList==[60])=false) (h15:(s.toList==[60,61])=false) (h16:(s.toList==[61])=false) (h17:(s.toList==[126,61])=false) (h18:(s.toList==[62,61])=false) (h19:(s.toList==[62])=false) (h20:(s.toList==[97,110,100])=false) (h21:(s.toList==[111,114])=false) (h22:(s.toList==[110,111,116])=false) (h23:(s.toList==[115,104,97,112,101])=true):Calls Tryz.prog 42 #[.string s] w fun e w'=>e=.returned (.bool true)/\w=w':=by
 go_enter Tryz.func42,Tryz.ntmps42
 go_wp2
 go_ret
 exact ⟨rfl,rfl⟩
theorem res_24 (s:ByteArray) (w:World) (h0:(s.toList==[88])=false) (h1:(s.toList==[89])=false) (h2:(s.toList==[70])=false) (h3:(s.toList==[71])=false) (h4:(s.toList==[115,101,108,102])=false) (h5:(s.toList==[97,114,103])=false) (h6:(s.toList==[43])=false) (h7:(s.toList==[45])=false) (h8:(s.toList==[42])=false) (h9:(s.toList==[37])=false) (h10:(s.toList==[124])=false) (h11:(s.toList==[94])=false) (h12:(s.toList==[109,105,110])=false) (h13:(s.toList==[109,97,120])=false) (h14:(s.toList==[60])=false) (h15:(s.toList==[60,61])=false) (h16:(s.toList==[61])=false) (h17:(s.toList==[126,61])=false) (h18:(s.toList==[62,61])=false) (h19:(s.toList==[62])=false) (h20:(s.toList==[97,110,100])=false) (h21:(s.toList==[111,114])=false) (h22:(s.toList==[110,111,116])=false) (h23:(s.toList==[115,104,97,112,101])=false) (h24:(s.toList==[114,101,115,104,97,112,101])=true):Calls Tryz.prog 42 #[.string s] w fun e w'=>e=.returned (.bool true)/\w=w':=by
 go_enter Tryz.func42,Tryz.ntmps42
 go_wp2
 go_ret
 exact ⟨rfl,rfl⟩
theorem res_25 (s:ByteArray) (w:World) (h0:(s.toList==[88])=false) (h1:(s.toList==[89])=false) (h2:(s.toList==[70])=false) (h3:(s.toList==[71])=false) (h4:(s.toList==[115,101,108,102])=false) (h5:(s.toList==[97,114,103])=false) (h6:(s.toList==[43])=false) (h7:(s.toList==[45])=false) (h8:(s.toList==[42])=false) (h9:(s.toList==[37])=false) (h10:(s.toList==[124])=false) (h11:(s.toList==[94])=false) (h12:(s.toList==[109,105,110])=false) (h13:(s.toList==[109,97,120])=false) (h14:(s.toList==[60])=false) (h15:(s.toList==[60,61])=false) (h16:(s.toList==[61])=false) (h17:(s.toList==[126,61])=false) (h18:(s.toList==[62,61])=false) (h19:(s.toList==[62])=false) (h20:(s.toList==[97,110,100])=false) (h21:(s.toList==[111,114])=false) (h22:(s.toList==[110,111,116])=false) (h23:(s.toList==[115,104,97,112,101])=false) (h24:(s.toList==[114,101,115,104,97,112,101])=false) (h25:(s.toList==[116,97,108,108,121])=true):Calls Tryz.prog 42 #[.string s] w fun e w'=>e=.returned (.bool true)/\w=w':=by
 go_enter Tryz.func42,Tryz.ntmps42
 go_wp2
 go_ret
 exact ⟨rfl,rfl⟩
theorem res_26 (s:ByteArray) (w:World) (h0:(s.toList==[88])=false) (h1:(s.toList==[89])=false) (h2:(s.toList==[70])=false) (h3:(s.toList==[71])=false) (h4:(s.toList==[115,101,108,102])=false) (h5:(s.toList==[97,114,103])=false) (h6:(s.toList==[43])=false) (h7:(s.toList==[45])=false) (h8:(s.toList==[42])=false) (h9:(s.toList==[37])=false) (h10:(s.toList==[124])=false) (h11:(s.toList==[94])=false) (h12:(s.toList==[109,105,110])=false) (h13:(s.toList==[109,97,120])=false) (h14:(s.toList==[60])=false) (h15:(s.toList==[60,61])=false) (h16:(s.toList==[61])=false) (h17:(s.toList==[126,61])=false) (h18:(s.toList==[62,61])=false) (h19:(s.toList==[62])=false) (h20:(s.toList==[97,110,100])=false) (h21:(s.toList==[111,114])=false) (h22:(s.toList==[110,111,116])=false) (h23:(s.toList==[115,104,97,112,101])=false) (h24:(s.toList==[114,101,115,104,97,112,101])=false) (h25:(s.toList==[116,97,108,108,121])=false) (h26:(s.toList==[100,101,112,116,104])=true):Calls Tryz.prog 42 #[.string s] w fun e w'=>e=.returned (.bool true)/\w=w':=by
 go_enter Tryz.func42,Tryz.ntmps42
 go_wp2
 go_ret
 exact ⟨rfl,rfl⟩
theorem res_27 (s:ByteArray) (w:World) (h0:(s.toList==[88])=false) (h1:(s.toList==[89])=false) (h2:(s.toList==[70])=false) (h3:(s.toList==[71])=false) (h4:(s.toList==[115,101,108,102])=false) (h5:(s.toList==[97,114,103])=false) (h6:(s.toList==[43])=false) (h7:(s.toList==[45])=false) (h8:(s.toList==[42])=false) (h9:(s.toList==[37])=false) (h10:(s.toList==[124])=false) (h11:(s.toList==[94])=false) (h12:(s.toList==[109,105,110])=false) (h13:(s.toList==[109,97,120])=false) (h14:(s.toList==[60])=false) (h15:(s.toList==[60,61])=false) (h16:(s.toList==[61])=false) (h17:(s.toList==[126,61])=false) (h18:(s.toList==[62,61])=false) (h19:(s.toList==[62])=false) (h20:(s.toList==[97,110,100])=false) (h21:(s.toList==[111,114])=false) (h22:(s.toList==[110,111,116])=false) (h23:(s.toList==[115,104,97,112,101])=false) (h24:(s.toList==[114,101,115,104,97,112,101])=false) (h25:(s.toList==[116,97,108,108,121])=false) (h26:(s.toList==[100,101,112,116,104])=false) (h27:(s.toList==[44])=true):Calls Tryz.prog 42 #[.string s] w fun e w'=>e=.returned (.bool true)/\w=w':=by
 go_enter Tryz.func42,Tryz.ntmps42
 go_wp2
 go_ret
 exact ⟨rfl,rfl⟩
theorem res_28 (s:ByteArray) (w:World) (h0:(s.toList==[88])=false) (h1:(s.toList==[89])=false) (h2:(s.toList==[70])=false) (h3:(s.toList==[71])=false) (h4:(s.toList==[115,101,108,102])=false) (h5:(s.toList==[97,114,103])=false) (h6:(s.toList==[43])=false) (h7:(s.toList==[45])=false) (h8:(s.toList==[42])=false) (h9:(s.toList==[37])=false) (h10:(s.toList==[124])=false) (h11:(s.toList==[94])=false) (h12:(s.toList==[109,105,110])=false) (h13:(s.toList==[109,97,120])=false) (h14:(s.toList==[60])=false) (h15:(s.toList==[60,61])=false) (h16:(s.toList==[61])=false) (h17:(s.toList==[126,61])=false) (h18:(s.toList==[62,61])=false) (h19:(s.toList==[62])=false) (h20:(s.toList==[97,110,100])=false) (h21:(s.toList==[111,114])=false) (h22:(s.toList==[110,111,116])=false) (h23:(s.toList==[115,104,97,112,101])=false) (h24:(s.toList==[114,101,115,104,97,112,101])=false) (h25:(s.toList==[116,97,108,108,121])=false) (h26:(s.toList==[100,101,112,116,104])=false) (h27:(s.toList==[44])=false) (h28:(s.toList==[115,116,97,99,107])=true):Calls Tryz.prog 42 #[.string s] w fun e w'=>e=.returned (.bool true)/\w=w':=by
 go_enter Tryz.func42,Tryz.ntmps42
 go_wp2
 go_ret
 exact ⟨rfl,rfl⟩
theorem res_29 (s:ByteArray) (w:World) (h0:(s.toList==[88])=false) (h1:(s.toList==[89])=false) (h2:(s.toList==[70])=false) (h3:(s.toList==[71])=false) (h4:(s.toList==[115,101,108,102])=false) (h5:(s.toList==[97,114,103])=false) (h6:(s.toList==[43])=false) (h7:(s.toList==[45])=false) (h8:(s.toList==[42])=false) (h9:(s.toList==[37])=false) (h10:(s.toList==[124])=false) (h11:(s.toList==[94])=false) (h12:(s.toList==[109,105,110])=false) (h13:(s.toList==[109,97,120])=false) (h14:(s.toList==[60])=false) (h15:(s.toList==[60,61])=false) (h16:(s.toList==[61])=false) (h17:(s.toList==[126,61])=false) (h18:(s.toList==[62,61])=false) (h19:(s.toList==[62])=false) (h20:(s.toList==[97,110,100])=false) (h21:(s.toList==[111,114])=false) (h22:(s.toList==[110,111,116])=false) (h23:(s.toList==[115,104,97,112,101])=false) (h24:(s.toList==[114,101,115,104,97,112,101])=false) (h25:(s.toList==[116,97,108,108,121])=false) (h26:(s.toList==[100,101,112,116,104])=false) (h27:(s.toList==[44])=false) (h28:(s.toList==[115,116,97,99,107])=false) (h29:(s.toList==[105,111,116,97])=true):Calls Tryz.prog 42 #[.string s] w fun e w'=>e=.returned (.bool true)/\w=w':=by
 go_enter Tryz.func42,Tryz.ntmps42
 go_wp2
 go_ret
 exact ⟨rfl,rfl⟩
theorem res_30 (s:ByteArray) (w:World) (h0:(s.toList==[88])=false) (h1:(s.toList==[89])=false) (h2:(s.toList==[70])=false) (h3:(s.toList==[71])=false) (h4:(s.toList==[115,101,108,102])=false) (h5:(s.toList==[97,114,103])=false) (h6:(s.toList==[43])=false) (h7:(s.toList==[45])=false) (h8:(s.toList==[42])=false) (h9:(s.toList==[37])=false) (h10:(s.toList==[124])=false) (h11:(s.toList==[94])=false) (h12:(s.toList==[109,105,110])=false) (h13:(s.toList==[109,97,120])=false) (h14:(s.toList==[60])=false) (h15:(s.toList==[60,61])=false) (h16:(s.toList==[61])=false) (h17:(s.toList==[126,61])=false) (h18:(s.toList==[62,61])=false) (h19:(s.toList==[62])=false) (h20:(s.toList==[97,110,100])=false) (h21:(s.toList==[111,114])=false) (h22:(s.toList==[110,111,116])=false) (h23:(s.toList==[115,104,97,112,101])=false) (h24:(s.toList==[114,101,115,104,97,112,101])=false) (h25:(s.toList==[116,97,108,108,121])=false) (h26:(s.toList==[100,101,112,116,104])=false) (h27:(s.toList==[44])=false) (h28:(s.toList==[115,116,97,99,107])=false) (h29:(s.toList==[105,111,116,97])=false) (h30:(s.toList==[116,97,107,101])=true):Calls Tryz.prog 42 #[.string s] w fun e w'=>e=.returned (.bool true)/\w=w':=by
 go_enter Tryz.func42,Tryz.ntmps42
 go_wp2
 go_ret
 exact ⟨rfl,rfl⟩
theorem res_31 (s:ByteArray) (w:World) (h0:(s.toList==[88])=false) (h1:(s.toList==[89])=false) (h2:(s.toList==[70])=false) (h3:(s.toList==[71])=false) (h4:(s.toList==[115,101,108,102])=false) (h5:(s.toList==[97,114,103])=false) (h6:(s.toList==[43])=false) (h7:(s.toList==[45])=false) (h8:(s.toList==[42])=false) (h9:(s.toList==[37])=false) (h10:(s.toList==[124])=false) (h11:(s.toList==[94])=false) (h12:(s.toList==[109,105,110])=false) (h13:(s.toList==[109,97,120])=false) (h14:(s.toList==[60])=false) (h15:(s.toList==[60,61])=false) (h16:(s.toList==[61])=false) (h17:(s.toList==[126,61])=false) (h18:(s.toList==[62,61])=false) (h19:(s.toList==[62])=false) (h20:(s.toList==[97,110,100])=false) (h21:(s.toList==[111,114])=false) (h22:(s.toList==[110,111,116])=false) (h23:(s.toList==[115,104,97,112,101])=false) (h24:(s.toList==[114,101,115,104,97,112,101])=false) (h25:(s.toList==[116,97,108,108,121])=false) (h26:(s.toList==[100,101,112,116,104])=false) (h27:(s.toList==[44])=false) (h28:(s.toList==[115,116,97,99,107])=false) (h29:(s.toList==[105,111,116,97])=false) (h30:(s.toList==[116,97,107,101])=false) (h31:(s.toList==[100,114,111,112])=true):Calls Tryz.prog 42 #[.string s] w fun e w'=>e=.returned (.bool true)/\w=w':=by
 go_enter Tryz.func42,Tryz.ntmps42
 go_wp2
 go_ret
 exact ⟨rfl,rfl⟩
theorem res_32 (s:ByteArray) (w:World) (h0:(s.toList==[88])=false) (h1:(s.toList==[89])=false) (h2:(s.toList==[70])=false) (h3:(s.toList==[71])=false) (h4:(s.toList==[115,101,108,102])=false) (h5:(s.toList==[97,114,103])=false) (h6:(s.toList==[43])=false) (h7:(s.toList==[45])=false) (h8:(s.toList==[42])=false) (h9:(s.toList==[37])=false) (h10:(s.toList==[124])=false) (h11:(s.toList==[94])=false) (h12:(s.toList==[109,105,110])=false) (h13:(s.toList==[109,97,120])=false) (h14:(s.toList==[60])=false) (h15:(s.toList==[60,61])=false) (h16:(s.toList==[61])=false) (h17:(s.toList==[126,61])=false) (h18:(s.toList==[62,61])=false) (h19:(s.toList==[62])=false) (h20:(s.toList==[97,110,100])=false) (h21:(s.toList==[111,114])=false) (h22:(s.toList==[110,111,116])=false) (h23:(s.toList==[115,104,97,112,101])=false) (h24:(s.toList==[114,101,115,104,97,112,101])=false) (h25:(s.toList==[116,97,108,108,121])=false) (h26:(s.toList==[100,101,112,116,104])=false) (h27:(s.toList==[44])=false) (h28:(s.toList==[115,116,97,99,107])=false) (h29:(s.toList==[105,111,116,97])=false) (h30:(s.toList==[116,97,107,101])=false) (h31:(s.toList==[100,114,111,112])=false) (h32:(s.toList==[102,105,114,115,116])=true):Calls Tryz.prog 42 #[.string s] w fun e w'=>e=.returned (.bool true)/\w=w':=by
 go_enter Tryz.func42,Tryz.ntmps42
 go_wp2
 go_ret
 exact ⟨rfl,rfl⟩
theorem res_33 (s:ByteArray) (w:World) (h0:(s.toList==[88])=false) (h1:(s.toList==[89])=false) (h2:(s.toList==[70])=false) (h3:(s.toList==[71])=false) (h4:(s.toList==[115,101,108,102])=false) (h5:(s.toList==[97,114,103])=false) (h6:(s.toList==[43])=false) (h7:(s.toList==[45])=false) (h8:(s.toList==[42])=false) (h9:(s.toList==[37])=false) (h10:(s.toList==[124])=false) (h11:(s.toList==[94])=false) (h12:(s.toList==[109,105,110])=false) (h13:(s.toList==[109,97,120])=false) (h14:(s.toList==[60])=false) (h15:(s.toList==[60,61])=false) (h16:(s.toList==[61])=false) (h17:(s.toList==[126,61])=false) (h18:(s.toList==[62,61])=false) (h19:(s.toList==[62])=false) (h20:(s.toList==[97,110,100])=false) (h21:(s.toList==[111,114])=false) (h22:(s.toList==[110,111,116])=false) (h23:(s.toList==[115,104,97,112,101])=false) (h24:(s.toList==[114,101,115,104,97,112,101])=false) (h25:(s.toList==[116,97,108,108,121])=false) (h26:(s.toList==[100,101,112,116,104])=false) (h27:(s.toList==[44])=false) (h28:(s.toList==[115,116,97,99,107])=false) (h29:(s.toList==[105,111,116,97])=false) (h30:(s.toList==[116,97,107,101])=false) (h31:(s.toList==[100,114,111,112])=false) (h32:(s.toList==[102,105,114,115,116])=false) (h33:(s.toList==[114,101,118,101,114,115,101])=true):Calls Tryz.prog 42 #[.string s] w fun e w'=>e=.returned (.bool true)/\w=w':=by
 go_enter Tryz.func42,Tryz.ntmps42
 go_wp2
 go_ret
 exact ⟨rfl,rfl⟩
theorem res_34 (s:ByteArray) (w:World) (h0:(s.toList==[88])=false) (h1:(s.toList==[89])=false) (h2:(s.toList==[70])=false) (h3:(s.toList==[71])=false) (h4:(s.toList==[115,101,108,102])=false) (h5:(s.toList==[97,114,103])=false) (h6:(s.toList==[43])=false) (h7:(s.toList==[45])=false) (h8:(s.toList==[42])=false) (h9:(s.toList==[37])=false) (h10:(s.toList==[124])=false) (h11:(s.toList==[94])=false) (h12:(s.toList==[109,105,110])=false) (h13:(s.toList==[109,97,120])=false) (h14:(s.toList==[60])=false) (h15:(s.toList==[60,61])=false) (h16:(s.toList==[61])=false) (h17:(s.toList==[126,61])=false) (h18:(s.toList==[62,61])=false) (h19:(s.toList==[62])=false) (h20:(s.toList==[97,110,100])=false) (h21:(s.toList==[111,114])=false) (h22:(s.toList==[110,111,116])=false) (h23:(s.toList==[115,104,97,112,101])=false) (h24:(s.toList==[114,101,115,104,97,112,101])=false) (h25:(s.toList==[116,97,108,108,121])=false) (h26:(s.toList==[100,101,112,116,104])=false) (h27:(s.toList==[44])=false) (h28:(s.toList==[115,116,97,99,107])=false) (h29:(s.toList==[105,111,116,97])=false) (h30:(s.toList==[116,97,107,101])=false) (h31:(s.toList==[100,114,111,112])=false) (h32:(s.toList==[102,105,114,115,116])=false) (h33:(s.toList==[114,101,118,101,114,115,101])=false) (h34:(s.toList==[114,111,116,97,116,101])=true):Calls Tryz.prog 42 #[.string s] w fun e w'=>e=.returned (.bool true)/\w=w':=by
 go_enter Tryz.func42,Tryz.ntmps42
 go_wp2
 go_ret
 exact ⟨rfl,rfl⟩
theorem res_35 (s:ByteArray) (w:World) (h0:(s.toList==[88])=false) (h1:(s.toList==[89])=false) (h2:(s.toList==[70])=false) (h3:(s.toList==[71])=false) (h4:(s.toList==[115,101,108,102])=false) (h5:(s.toList==[97,114,103])=false) (h6:(s.toList==[43])=false) (h7:(s.toList==[45])=false) (h8:(s.toList==[42])=false) (h9:(s.toList==[37])=false) (h10:(s.toList==[124])=false) (h11:(s.toList==[94])=false) (h12:(s.toList==[109,105,110])=false) (h13:(s.toList==[109,97,120])=false) (h14:(s.toList==[60])=false) (h15:(s.toList==[60,61])=false) (h16:(s.toList==[61])=false) (h17:(s.toList==[126,61])=false) (h18:(s.toList==[62,61])=false) (h19:(s.toList==[62])=false) (h20:(s.toList==[97,110,100])=false) (h21:(s.toList==[111,114])=false) (h22:(s.toList==[110,111,116])=false) (h23:(s.toList==[115,104,97,112,101])=false) (h24:(s.toList==[114,101,115,104,97,112,101])=false) (h25:(s.toList==[116,97,108,108,121])=false) (h26:(s.toList==[100,101,112,116,104])=false) (h27:(s.toList==[44])=false) (h28:(s.toList==[115,116,97,99,107])=false) (h29:(s.toList==[105,111,116,97])=false) (h30:(s.toList==[116,97,107,101])=false) (h31:(s.toList==[100,114,111,112])=false) (h32:(s.toList==[102,105,114,115,116])=false) (h33:(s.toList==[114,101,118,101,114,115,101])=false) (h34:(s.toList==[114,111,116,97,116,101])=false) (h35:(s.toList==[116,114,97,110,115,112,111,115,101])=true):Calls Tryz.prog 42 #[.string s] w fun e w'=>e=.returned (.bool true)/\w=w':=by
 go_enter Tryz.func42,Tryz.ntmps42
 go_wp2
 go_ret
 exact ⟨rfl,rfl⟩
theorem res_36 (s:ByteArray) (w:World) (h0:(s.toList==[88])=false) (h1:(s.toList==[89])=false) (h2:(s.toList==[70])=false) (h3:(s.toList==[71])=false) (h4:(s.toList==[115,101,108,102])=false) (h5:(s.toList==[97,114,103])=false) (h6:(s.toList==[43])=false) (h7:(s.toList==[45])=false) (h8:(s.toList==[42])=false) (h9:(s.toList==[37])=false) (h10:(s.toList==[124])=false) (h11:(s.toList==[94])=false) (h12:(s.toList==[109,105,110])=false) (h13:(s.toList==[109,97,120])=false) (h14:(s.toList==[60])=false) (h15:(s.toList==[60,61])=false) (h16:(s.toList==[61])=false) (h17:(s.toList==[126,61])=false) (h18:(s.toList==[62,61])=false) (h19:(s.toList==[62])=false) (h20:(s.toList==[97,110,100])=false) (h21:(s.toList==[111,114])=false) (h22:(s.toList==[110,111,116])=false) (h23:(s.toList==[115,104,97,112,101])=false) (h24:(s.toList==[114,101,115,104,97,112,101])=false) (h25:(s.toList==[116,97,108,108,121])=false) (h26:(s.toList==[100,101,112,116,104])=false) (h27:(s.toList==[44])=false) (h28:(s.toList==[115,116,97,99,107])=false) (h29:(s.toList==[105,111,116,97])=false) (h30:(s.toList==[116,97,107,101])=false) (h31:(s.toList==[100,114,111,112])=false) (h32:(s.toList==[102,105,114,115,116])=false) (h33:(s.toList==[114,101,118,101,114,115,101])=false) (h34:(s.toList==[114,111,116,97,116,101])=false) (h35:(s.toList==[116,114,97,110,115,112,111,115,101])=false) (h36:(s.toList==[102,114,111,109])=true):Calls Tryz.prog 42 #[.string s] w fun e w'=>e=.returned (.bool true)/\w=w':=by
 go_enter Tryz.func42,Tryz.ntmps42
 go_wp2
 go_ret
 exact ⟨rfl,rfl⟩
theorem res_37 (s:ByteArray) (w:World) (h0:(s.toList==[88])=false) (h1:(s.toList==[89])=false) (h2:(s.toList==[70])=false) (h3:(s.toList==[71])=false) (h4:(s.toList==[115,101,108,102])=false) (h5:(s.toList==[97,114,103])=false) (h6:(s.toList==[43])=false) (h7:(s.toList==[45])=false) (h8:(s.toList==[42])=false) (h9:(s.toList==[37])=false) (h10:(s.toList==[124])=false) (h11:(s.toList==[94])=false) (h12:(s.toList==[109,105,110])=false) (h13:(s.toList==[109,97,120])=false) (h14:(s.toList==[60])=false) (h15:(s.toList==[60,61])=false) (h16:(s.toList==[61])=false) (h17:(s.toList==[126,61])=false) (h18:(s.toList==[62,61])=false) (h19:(s.toList==[62])=false) (h20:(s.toList==[97,110,100])=false) (h21:(s.toList==[111,114])=false) (h22:(s.toList==[110,111,116])=false) (h23:(s.toList==[115,104,97,112,101])=false) (h24:(s.toList==[114,101,115,104,97,112,101])=false) (h25:(s.toList==[116,97,108,108,121])=false) (h26:(s.toList==[100,101,112,116,104])=false) (h27:(s.toList==[44])=false) (h28:(s.toList==[115,116,97,99,107])=false) (h29:(s.toList==[105,111,116,97])=false) (h30:(s.toList==[116,97,107,101])=false) (h31:(s.toList==[100,114,111,112])=false) (h32:(s.toList==[102,105,114,115,116])=false) (h33:(s.toList==[114,101,118,101,114,115,101])=false) (h34:(s.toList==[114,111,116,97,116,101])=false) (h35:(s.toList==[116,114,97,110,115,112,111,115,101])=false) (h36:(s.toList==[102,114,111,109])=false) (h37:(s.toList==[112,105,99,107])=true):Calls Tryz.prog 42 #[.string s] w fun e w'=>e=.returned (.bool true)/\w=w':=by
 go_enter Tryz.func42,Tryz.ntmps42
 go_wp2
 go_ret
 exact ⟨rfl,rfl⟩
theorem res_38 (s:ByteArray) (w:World) (h0:(s.toList==[88])=false) (h1:(s.toList==[89])=false) (h2:(s.toList==[70])=false) (h3:(s.toList==[71])=false) (h4:(s.toList==[115,101,108,102])=false) (h5:(s.toList==[97,114,103])=false) (h6:(s.toList==[43])=false) (h7:(s.toList==[45])=false) (h8:(s.toList==[42])=false) (h9:(s.toList==[37])=false) (h10:(s.toList==[124])=false) (h11:(s.toList==[94])=false) (h12:(s.toList==[109,105,110])=false) (h13:(s.toList==[109,97,120])=false) (h14:(s.toList==[60])=false) (h15:(s.toList==[60,61])=false) (h16:(s.toList==[61])=false) (h17:(s.toList==[126,61])=false) (h18:(s.toList==[62,61])=false) (h19:(s.toList==[62])=false) (h20:(s.toList==[97,110,100])=false) (h21:(s.toList==[111,114])=false) (h22:(s.toList==[110,111,116])=false) (h23:(s.toList==[115,104,97,112,101])=false) (h24:(s.toList==[114,101,115,104,97,112,101])=false) (h25:(s.toList==[116,97,108,108,121])=false) (h26:(s.toList==[100,101,112,116,104])=false) (h27:(s.toList==[44])=false) (h28:(s.toList==[115,116,97,99,107])=false) (h29:(s.toList==[105,111,116,97])=false) (h30:(s.toList==[116,97,107,101])=false) (h31:(s.toList==[100,114,111,112])=false) (h32:(s.toList==[102,105,114,115,116])=false) (h33:(s.toList==[114,101,118,101,114,115,101])=false) (h34:(s.toList==[114,111,116,97,116,101])=false) (h35:(s.toList==[116,114,97,110,115,112,111,115,101])=false) (h36:(s.toList==[102,114,111,109])=false) (h37:(s.toList==[112,105,99,107])=false) (h38:(s.toList==[115,101,108,101,99,116])=true):Calls Tryz.prog 42 #[.string s] w fun e w'=>e=.returned (.bool true)/\w=w':=by
 go_enter Tryz.func42,Tryz.ntmps42
 go_wp2
 go_ret
 exact ⟨rfl,rfl⟩
theorem res_39 (s:ByteArray) (w:World) (h0:(s.toList==[88])=false) (h1:(s.toList==[89])=false) (h2:(s.toList==[70])=false) (h3:(s.toList==[71])=false) (h4:(s.toList==[115,101,108,102])=false) (h5:(s.toList==[97,114,103])=false) (h6:(s.toList==[43])=false) (h7:(s.toList==[45])=false) (h8:(s.toList==[42])=false) (h9:(s.toList==[37])=false) (h10:(s.toList==[124])=false) (h11:(s.toList==[94])=false) (h12:(s.toList==[109,105,110])=false) (h13:(s.toList==[109,97,120])=false) (h14:(s.toList==[60])=false) (h15:(s.toList==[60,61])=false) (h16:(s.toList==[61])=false) (h17:(s.toList==[126,61])=false) (h18:(s.toList==[62,61])=false) (h19:(s.toList==[62])=false) (h20:(s.toList==[97,110,100])=false) (h21:(s.toList==[111,114])=false) (h22:(s.toList==[110,111,116])=false) (h23:(s.toList==[115,104,97,112,101])=false) (h24:(s.toList==[114,101,115,104,97,112,101])=false) (h25:(s.toList==[116,97,108,108,121])=false) (h26:(s.toList==[100,101,112,116,104])=false) (h27:(s.toList==[44])=false) (h28:(s.toList==[115,116,97,99,107])=false) (h29:(s.toList==[105,111,116,97])=false) (h30:(s.toList==[116,97,107,101])=false) (h31:(s.toList==[100,114,111,112])=false) (h32:(s.toList==[102,105,114,115,116])=false) (h33:(s.toList==[114,101,118,101,114,115,101])=false) (h34:(s.toList==[114,111,116,97,116,101])=false) (h35:(s.toList==[116,114,97,110,115,112,111,115,101])=false) (h36:(s.toList==[102,114,111,109])=false) (h37:(s.toList==[112,105,99,107])=false) (h38:(s.toList==[115,101,108,101,99,116])=false) (h39:(s.toList==[97,109,101,110,100])=true):Calls Tryz.prog 42 #[.string s] w fun e w'=>e=.returned (.bool true)/\w=w':=by
 go_enter Tryz.func42,Tryz.ntmps42
 go_wp2
 go_ret
 exact ⟨rfl,rfl⟩
theorem res_40 (s:ByteArray) (w:World) (h0:(s.toList==[88])=false) (h1:(s.toList==[89])=false) (h2:(s.toList==[70])=false) (h3:(s.toList==[71])=false) (h4:(s.toList==[115,101,108,102])=false) (h5:(s.toList==[97,114,103])=false) (h6:(s.toList==[43])=false) (h7:(s.toList==[45])=false) (h8:(s.toList==[42])=false) (h9:(s.toList==[37])=false) (h10:(s.toList==[124])=false) (h11:(s.toList==[94])=false) (h12:(s.toList==[109,105,110])=false) (h13:(s.toList==[109,97,120])=false) (h14:(s.toList==[60])=false) (h15:(s.toList==[60,61])=false) (h16:(s.toList==[61])=false) (h17:(s.toList==[126,61])=false) (h18:(s.toList==[62,61])=false) (h19:(s.toList==[62])=false) (h20:(s.toList==[97,110,100])=false) (h21:(s.toList==[111,114])=false) (h22:(s.toList==[110,111,116])=false) (h23:(s.toList==[115,104,97,112,101])=false) (h24:(s.toList==[114,101,115,104,97,112,101])=false) (h25:(s.toList==[116,97,108,108,121])=false) (h26:(s.toList==[100,101,112,116,104])=false) (h27:(s.toList==[44])=false) (h28:(s.toList==[115,116,97,99,107])=false) (h29:(s.toList==[105,111,116,97])=false) (h30:(s.toList==[116,97,107,101])=false) (h31:(s.toList==[100,114,111,112])=false) (h32:(s.toList==[102,105,114,115,116])=false) (h33:(s.toList==[114,101,118,101,114,115,101])=false) (h34:(s.toList==[114,111,116,97,116,101])=false) (h35:(s.toList==[116,114,97,110,115,112,111,115,101])=false) (h36:(s.toList==[102,114,111,109])=false) (h37:(s.toList==[112,105,99,107])=false) (h38:(s.toList==[115,101,108,101,99,116])=false) (h39:(s.toList==[97,109,101,110,100])=false) (h40:(s.toList==[117,112])=true):Calls Tryz.prog 42 #[.string s] w fun e w'=>e=.returned (.bool true)/\w=w':=by
 go_enter Tryz.func42,Tryz.ntmps42
 go_wp2
 go_ret
 exact ⟨rfl,rfl⟩
theorem res_41 (s:ByteArray) (w:World) (h0:(s.toList==[88])=false) (h1:(s.toList==[89])=false) (h2:(s.toList==[70])=false) (h3:(s.toList==[71])=false) (h4:(s.toList==[115,101,108,102])=false) (h5:(s.toList==[97,114,103])=false) (h6:(s.toList==[43])=false) (h7:(s.toList==[45])=false) (h8:(s.toList==[42])=false) (h9:(s.toList==[37])=false) (h10:(s.toList==[124])=false) (h11:(s.toList==[94])=false) (h12:(s.toList==[109,105,110])=false) (h13:(s.toList==[109,97,120])=false) (h14:(s.toList==[60])=false) (h15:(s.toList==[60,61])=false) (h16:(s.toList==[61])=false) (h17:(s.toList==[126,61])=false) (h18:(s.toList==[62,61])=false) (h19:(s.toList==[62])=false) (h20:(s.toList==[97,110,100])=false) (h21:(s.toList==[111,114])=false) (h22:(s.toList==[110,111,116])=false) (h23:(s.toList==[115,104,97,112,101])=false) (h24:(s.toList==[114,101,115,104,97,112,101])=false) (h25:(s.toList==[116,97,108,108,121])=false) (h26:(s.toList==[100,101,112,116,104])=false) (h27:(s.toList==[44])=false) (h28:(s.toList==[115,116,97,99,107])=false) (h29:(s.toList==[105,111,116,97])=false) (h30:(s.toList==[116,97,107,101])=false) (h31:(s.toList==[100,114,111,112])=false) (h32:(s.toList==[102,105,114,115,116])=false) (h33:(s.toList==[114,101,118,101,114,115,101])=false) (h34:(s.toList==[114,111,116,97,116,101])=false) (h35:(s.toList==[116,114,97,110,115,112,111,115,101])=false) (h36:(s.toList==[102,114,111,109])=false) (h37:(s.toList==[112,105,99,107])=false) (h38:(s.toList==[115,101,108,101,99,116])=false) (h39:(s.toList==[97,109,101,110,100])=false) (h40:(s.toList==[117,112])=false) (h41:(s.toList==[100,111,119,110])=true):Calls Tryz.prog 42 #[.string s] w fun e w'=>e=.returned (.bool true)/\w=w':=by
 go_enter Tryz.func42,Tryz.ntmps42
 go_wp2
 go_ret
 exact ⟨rfl,rfl⟩
theorem res_42 (s:ByteArray) (w:World) (h0:(s.toList==[88])=false) (h1:(s.toList==[89])=false) (h2:(s.toList==[70])=false) (h3:(s.toList==[71])=false) (h4:(s.toList==[115,101,108,102])=false) (h5:(s.toList==[97,114,103])=false) (h6:(s.toList==[43])=false) (h7:(s.toList==[45])=false) (h8:(s.toList==[42])=false) (h9:(s.toList==[37])=false) (h10:(s.toList==[124])=false) (h11:(s.toList==[94])=false) (h12:(s.toList==[109,105,110])=false) (h13:(s.toList==[109,97,120])=false) (h14:(s.toList==[60])=false) (h15:(s.toList==[60,61])=false) (h16:(s.toList==[61])=false) (h17:(s.toList==[126,61])=false) (h18:(s.toList==[62,61])=false) (h19:(s.toList==[62])=false) (h20:(s.toList==[97,110,100])=false) (h21:(s.toList==[111,114])=false) (h22:(s.toList==[110,111,116])=false) (h23:(s.toList==[115,104,97,112,101])=false) (h24:(s.toList==[114,101,115,104,97,112,101])=false) (h25:(s.toList==[116,97,108,108,121])=false) (h26:(s.toList==[100,101,112,116,104])=false) (h27:(s.toList==[44])=false) (h28:(s.toList==[115,116,97,99,107])=false) (h29:(s.toList==[105,111,116,97])=false) (h30:(s.toList==[116,97,107,101])=false) (h31:(s.toList==[100,114,111,112])=false) (h32:(s.toList==[102,105,114,115,116])=false) (h33:(s.toList==[114,101,118,101,114,115,101])=false) (h34:(s.toList==[114,111,116,97,116,101])=false) (h35:(s.toList==[116,114,97,110,115,112,111,115,101])=false) (h36:(s.toList==[102,114,111,109])=false) (h37:(s.toList==[112,105,99,107])=false) (h38:(s.toList==[115,101,108,101,99,116])=false) (h39:(s.toList==[97,109,101,110,100])=false) (h40:(s.toList==[117,112])=false) (h41:(s.toList==[100,111,119,110])=false) (h42:(s.toList==[115,111,114,116])=true):Calls Tryz.prog 42 #[.string s] w fun e w'=>e=.returned (.bool true)/\w=w':=by
 go_enter Tryz.func42,Tryz.ntmps42
 go_wp2
 go_ret
 exact ⟨rfl,rfl⟩
theorem res_43 (s:ByteArray) (w:World) (h0:(s.toList==[88])=false) (h1:(s.toList==[89])=false) (h2:(s.toList==[70])=false) (h3:(s.toList==[71])=false) (h4:(s.toList==[115,101,108,102])=false) (h5:(s.toList==[97,114,103])=false) (h6:(s.toList==[43])=false) (h7:(s.toList==[45])=false) (h8:(s.toList==[42])=false) (h9:(s.toList==[37])=false) (h10:(s.toList==[124])=false) (h11:(s.toList==[94])=false) (h12:(s.toList==[109,105,110])=false) (h13:(s.toList==[109,97,120])=false) (h14:(s.toList==[60])=false) (h15:(s.toList==[60,61])=false) (h16:(s.toList==[61])=false) (h17:(s.toList==[126,61])=false) (h18:(s.toList==[62,61])=false) (h19:(s.toList==[62])=false) (h20:(s.toList==[97,110,100])=false) (h21:(s.toList==[111,114])=false) (h22:(s.toList==[110,111,116])=false) (h23:(s.toList==[115,104,97,112,101])=false) (h24:(s.toList==[114,101,115,104,97,112,101])=false) (h25:(s.toList==[116,97,108,108,121])=false) (h26:(s.toList==[100,101,112,116,104])=false) (h27:(s.toList==[44])=false) (h28:(s.toList==[115,116,97,99,107])=false) (h29:(s.toList==[105,111,116,97])=false) (h30:(s.toList==[116,97,107,101])=false) (h31:(s.toList==[100,114,111,112])=false) (h32:(s.toList==[102,105,114,115,116])=false) (h33:(s.toList==[114,101,118,101,114,115,101])=false) (h34:(s.toList==[114,111,116,97,116,101])=false) (h35:(s.toList==[116,114,97,110,115,112,111,115,101])=false) (h36:(s.toList==[102,114,111,109])=false) (h37:(s.toList==[112,105,99,107])=false) (h38:(s.toList==[115,101,108,101,99,116])=false) (h39:(s.toList==[97,109,101,110,100])=false) (h40:(s.toList==[117,112])=false) (h41:(s.toList==[100,111,119,110])=false) (h42:(s.toList==[115,111,114,116])=false) (h43:(s.toList==[102,105,110,100])=true):Calls Tryz.prog 42 #[.string s] w fun e w'=>e=.returned (.bool true)/\w=w':=by
 go_enter Tryz.func42,Tryz.ntmps42
 go_wp2
 go_ret
 exact ⟨rfl,rfl⟩
theorem res_44 (s:ByteArray) (w:World) (h0:(s.toList==[88])=false) (h1:(s.toList==[89])=false) (h2:(s.toList==[70])=false) (h3:(s.toList==[71])=false) (h4:(s.toList==[115,101,108,102])=false) (h5:(s.toList==[97,114,103])=false) (h6:(s.toList==[43])=false) (h7:(s.toList==[45])=false) (h8:(s.toList==[42])=false) (h9:(s.toList==[37])=false) (h10:(s.toList==[124])=false) (h11:(s.toList==[94])=false) (h12:(s.toList==[109,105,110])=false) (h13:(s.toList==[109,97,120])=false) (h14:(s.toList==[60])=false) (h15:(s.toList==[60,61])=false) (h16:(s.toList==[61])=false) (h17:(s.toList==[126,61])=false) (h18:(s.toList==[62,61])=false) (h19:(s.toList==[62])=false) (h20:(s.toList==[97,110,100])=false) (h21:(s.toList==[111,114])=false) (h22:(s.toList==[110,111,116])=false) (h23:(s.toList==[115,104,97,112,101])=false) (h24:(s.toList==[114,101,115,104,97,112,101])=false) (h25:(s.toList==[116,97,108,108,121])=false) (h26:(s.toList==[100,101,112,116,104])=false) (h27:(s.toList==[44])=false) (h28:(s.toList==[115,116,97,99,107])=false) (h29:(s.toList==[105,111,116,97])=false) (h30:(s.toList==[116,97,107,101])=false) (h31:(s.toList==[100,114,111,112])=false) (h32:(s.toList==[102,105,114,115,116])=false) (h33:(s.toList==[114,101,118,101,114,115,101])=false) (h34:(s.toList==[114,111,116,97,116,101])=false) (h35:(s.toList==[116,114,97,110,115,112,111,115,101])=false) (h36:(s.toList==[102,114,111,109])=false) (h37:(s.toList==[112,105,99,107])=false) (h38:(s.toList==[115,101,108,101,99,116])=false) (h39:(s.toList==[97,109,101,110,100])=false) (h40:(s.toList==[117,112])=false) (h41:(s.toList==[100,111,119,110])=false) (h42:(s.toList==[115,111,114,116])=false) (h43:(s.toList==[102,105,110,100])=false) (h44:(s.toList==[105,110])=true):Calls Tryz.prog 42 #[.string s] w fun e w'=>e=.returned (.bool true)/\w=w':=by
 go_enter Tryz.func42,Tryz.ntmps42
 go_wp2
 go_ret
 exact ⟨rfl,rfl⟩
theorem res_45 (s:ByteArray) (w:World) (h0:(s.toList==[88])=false) (h1:(s.toList==[89])=false) (h2:(s.toList==[70])=false) (h3:(s.toList==[71])=false) (h4:(s.toList==[115,101,108,102])=false) (h5:(s.toList==[97,114,103])=false) (h6:(s.toList==[43])=false) (h7:(s.toList==[45])=false) (h8:(s.toList==[42])=false) (h9:(s.toList==[37])=false) (h10:(s.toList==[124])=false) (h11:(s.toList==[94])=false) (h12:(s.toList==[109,105,110])=false) (h13:(s.toList==[109,97,120])=false) (h14:(s.toList==[60])=false) (h15:(s.toList==[60,61])=false) (h16:(s.toList==[61])=false) (h17:(s.toList==[126,61])=false) (h18:(s.toList==[62,61])=false) (h19:(s.toList==[62])=false) (h20:(s.toList==[97,110,100])=false) (h21:(s.toList==[111,114])=false) (h22:(s.toList==[110,111,116])=false) (h23:(s.toList==[115,104,97,112,101])=false) (h24:(s.toList==[114,101,115,104,97,112,101])=false) (h25:(s.toList==[116,97,108,108,121])=false) (h26:(s.toList==[100,101,112,116,104])=false) (h27:(s.toList==[44])=false) (h28:(s.toList==[115,116,97,99,107])=false) (h29:(s.toList==[105,111,116,97])=false) (h30:(s.toList==[116,97,107,101])=false) (h31:(s.toList==[100,114,111,112])=false) (h32:(s.toList==[102,105,114,115,116])=false) (h33:(s.toList==[114,101,118,101,114,115,101])=false) (h34:(s.toList==[114,111,116,97,116,101])=false) (h35:(s.toList==[116,114,97,110,115,112,111,115,101])=false) (h36:(s.toList==[102,114,111,109])=false) (h37:(s.toList==[112,105,99,107])=false) (h38:(s.toList==[115,101,108,101,99,116])=false) (h39:(s.toList==[97,109,101,110,100])=false) (h40:(s.toList==[117,112])=false) (h41:(s.toList==[100,111,119,110])=false) (h42:(s.toList==[115,111,114,116])=false) (h43:(s.toList==[102,105,110,100])=false) (h44:(s.toList==[105,110])=false) (h45:(s.toList==[117,110,105,113,117,101])=true):Calls Tryz.prog 42 #[.string s] w fun e w'=>e=.returned (.bool true)/\w=w':=by
 go_enter Tryz.func42,Tryz.ntmps42
 go_wp2
 go_ret
 exact ⟨rfl,rfl⟩
theorem res_46 (s:ByteArray) (w:World) (h0:(s.toList==[88])=false) (h1:(s.toList==[89])=false) (h2:(s.toList==[70])=false) (h3:(s.toList==[71])=false) (h4:(s.toList==[115,101,108,102])=false) (h5:(s.toList==[97,114,103])=false) (h6:(s.toList==[43])=false) (h7:(s.toList==[45])=false) (h8:(s.toList==[42])=false) (h9:(s.toList==[37])=false) (h10:(s.toList==[124])=false) (h11:(s.toList==[94])=false) (h12:(s.toList==[109,105,110])=false) (h13:(s.toList==[109,97,120])=false) (h14:(s.toList==[60])=false) (h15:(s.toList==[60,61])=false) (h16:(s.toList==[61])=false) (h17:(s.toList==[126,61])=false) (h18:(s.toList==[62,61])=false) (h19:(s.toList==[62])=false) (h20:(s.toList==[97,110,100])=false) (h21:(s.toList==[111,114])=false) (h22:(s.toList==[110,111,116])=false) (h23:(s.toList==[115,104,97,112,101])=false) (h24:(s.toList==[114,101,115,104,97,112,101])=false) (h25:(s.toList==[116,97,108,108,121])=false) (h26:(s.toList==[100,101,112,116,104])=false) (h27:(s.toList==[44])=false) (h28:(s.toList==[115,116,97,99,107])=false) (h29:(s.toList==[105,111,116,97])=false) (h30:(s.toList==[116,97,107,101])=false) (h31:(s.toList==[100,114,111,112])=false) (h32:(s.toList==[102,105,114,115,116])=false) (h33:(s.toList==[114,101,118,101,114,115,101])=false) (h34:(s.toList==[114,111,116,97,116,101])=false) (h35:(s.toList==[116,114,97,110,115,112,111,115,101])=false) (h36:(s.toList==[102,114,111,109])=false) (h37:(s.toList==[112,105,99,107])=false) (h38:(s.toList==[115,101,108,101,99,116])=false) (h39:(s.toList==[97,109,101,110,100])=false) (h40:(s.toList==[117,112])=false) (h41:(s.toList==[100,111,119,110])=false) (h42:(s.toList==[115,111,114,116])=false) (h43:(s.toList==[102,105,110,100])=false) (h44:(s.toList==[105,110])=false) (h45:(s.toList==[117,110,105,113,117,101])=false) (h46:(s.toList==[119,104,101,114,101])=true):Calls Tryz.prog 42 #[.string s] w fun e w'=>e=.returned (.bool true)/\w=w':=by
 go_enter Tryz.func42,Tryz.ntmps42
 go_wp2
 go_ret
 exact ⟨rfl,rfl⟩
theorem res_47 (s:ByteArray) (w:World) (h0:(s.toList==[88])=false) (h1:(s.toList==[89])=false) (h2:(s.toList==[70])=false) (h3:(s.toList==[71])=false) (h4:(s.toList==[115,101,108,102])=false) (h5:(s.toList==[97,114,103])=false) (h6:(s.toList==[43])=false) (h7:(s.toList==[45])=false) (h8:(s.toList==[42])=false) (h9:(s.toList==[37])=false) (h10:(s.toList==[124])=false) (h11:(s.toList==[94])=false) (h12:(s.toList==[109,105,110])=false) (h13:(s.toList==[109,97,120])=false) (h14:(s.toList==[60])=false) (h15:(s.toList==[60,61])=false) (h16:(s.toList==[61])=false) (h17:(s.toList==[126,61])=false) (h18:(s.toList==[62,61])=false) (h19:(s.toList==[62])=false) (h20:(s.toList==[97,110,100])=false) (h21:(s.toList==[111,114])=false) (h22:(s.toList==[110,111,116])=false) (h23:(s.toList==[115,104,97,112,101])=false) (h24:(s.toList==[114,101,115,104,97,112,101])=false) (h25:(s.toList==[116,97,108,108,121])=false) (h26:(s.toList==[100,101,112,116,104])=false) (h27:(s.toList==[44])=false) (h28:(s.toList==[115,116,97,99,107])=false) (h29:(s.toList==[105,111,116,97])=false) (h30:(s.toList==[116,97,107,101])=false) (h31:(s.toList==[100,114,111,112])=false) (h32:(s.toList==[102,105,114,115,116])=false) (h33:(s.toList==[114,101,118,101,114,115,101])=false) (h34:(s.toList==[114,111,116,97,116,101])=false) (h35:(s.toList==[116,114,97,110,115,112,111,115,101])=false) (h36:(s.toList==[102,114,111,109])=false) (h37:(s.toList==[112,105,99,107])=false) (h38:(s.toList==[115,101,108,101,99,116])=false) (h39:(s.toList==[97,109,101,110,100])=false) (h40:(s.toList==[117,112])=false) (h41:(s.toList==[100,111,119,110])=false) (h42:(s.toList==[115,111,114,116])=false) (h43:(s.toList==[102,105,110,100])=false) (h44:(s.toList==[105,110])=false) (h45:(s.toList==[117,110,105,113,117,101])=false) (h46:(s.toList==[119,104,101,114,101])=false) (h47:(s.toList==[99,111,112,121])=true):Calls Tryz.prog 42 #[.string s] w fun e w'=>e=.returned (.bool true)/\w=w':=by
 go_enter Tryz.func42,Tryz.ntmps42
 go_wp2
 go_ret
 exact ⟨rfl,rfl⟩
theorem res_48 (s:ByteArray) (w:World) (h0:(s.toList==[88])=false) (h1:(s.toList==[89])=false) (h2:(s.toList==[70])=false) (h3:(s.toList==[71])=false) (h4:(s.toList==[115,101,108,102])=false) (h5:(s.toList==[97,114,103])=false) (h6:(s.toList==[43])=false) (h7:(s.toList==[45])=false) (h8:(s.toList==[42])=false) (h9:(s.toList==[37])=false) (h10:(s.toList==[124])=false) (h11:(s.toList==[94])=false) (h12:(s.toList==[109,105,110])=false) (h13:(s.toList==[109,97,120])=false) (h14:(s.toList==[60])=false) (h15:(s.toList==[60,61])=false) (h16:(s.toList==[61])=false) (h17:(s.toList==[126,61])=false) (h18:(s.toList==[62,61])=false) (h19:(s.toList==[62])=false) (h20:(s.toList==[97,110,100])=false) (h21:(s.toList==[111,114])=false) (h22:(s.toList==[110,111,116])=false) (h23:(s.toList==[115,104,97,112,101])=false) (h24:(s.toList==[114,101,115,104,97,112,101])=false) (h25:(s.toList==[116,97,108,108,121])=false) (h26:(s.toList==[100,101,112,116,104])=false) (h27:(s.toList==[44])=false) (h28:(s.toList==[115,116,97,99,107])=false) (h29:(s.toList==[105,111,116,97])=false) (h30:(s.toList==[116,97,107,101])=false) (h31:(s.toList==[100,114,111,112])=false) (h32:(s.toList==[102,105,114,115,116])=false) (h33:(s.toList==[114,101,118,101,114,115,101])=false) (h34:(s.toList==[114,111,116,97,116,101])=false) (h35:(s.toList==[116,114,97,110,115,112,111,115,101])=false) (h36:(s.toList==[102,114,111,109])=false) (h37:(s.toList==[112,105,99,107])=false) (h38:(s.toList==[115,101,108,101,99,116])=false) (h39:(s.toList==[97,109,101,110,100])=false) (h40:(s.toList==[117,112])=false) (h41:(s.toList==[100,111,119,110])=false) (h42:(s.toList==[115,111,114,116])=false) (h43:(s.toList==[102,105,110,100])=false) (h44:(s.toList==[105,110])=false) (h45:(s.toList==[117,110,105,113,117,101])=false) (h46:(s.toList==[119,104,101,114,101])=false) (h47:(s.toList==[99,111,112,121])=false) (h48:(s.toList==[101,120,112,97,110,100])=true):Calls Tryz.prog 42 #[.string s] w fun e w'=>e=.returned (.bool true)/\w=w':=by
 go_enter Tryz.func42,Tryz.ntmps42
 go_wp2
 go_ret
 exact ⟨rfl,rfl⟩
theorem res_49 (s:ByteArray) (w:World) (h0:(s.toList==[88])=false) (h1:(s.toList==[89])=false) (h2:(s.toList==[70])=false) (h3:(s.toList==[71])=false) (h4:(s.toList==[115,101,108,102])=false) (h5:(s.toList==[97,114,103])=false) (h6:(s.toList==[43])=false) (h7:(s.toList==[45])=false) (h8:(s.toList==[42])=false) (h9:(s.toList==[37])=false) (h10:(s.toList==[124])=false) (h11:(s.toList==[94])=false) (h12:(s.toList==[109,105,110])=false) (h13:(s.toList==[109,97,120])=false) (h14:(s.toList==[60])=false) (h15:(s.toList==[60,61])=false) (h16:(s.toList==[61])=false) (h17:(s.toList==[126,61])=false) (h18:(s.toList==[62,61])=false) (h19:(s.toList==[62])=false) (h20:(s.toList==[97,110,100])=false) (h21:(s.toList==[111,114])=false) (h22:(s.toList==[110,111,116])=false) (h23:(s.toList==[115,104,97,112,101])=false) (h24:(s.toList==[114,101,115,104,97,112,101])=false) (h25:(s.toList==[116,97,108,108,121])=false) (h26:(s.toList==[100,101,112,116,104])=false) (h27:(s.toList==[44])=false) (h28:(s.toList==[115,116,97,99,107])=false) (h29:(s.toList==[105,111,116,97])=false) (h30:(s.toList==[116,97,107,101])=false) (h31:(s.toList==[100,114,111,112])=false) (h32:(s.toList==[102,105,114,115,116])=false) (h33:(s.toList==[114,101,118,101,114,115,101])=false) (h34:(s.toList==[114,111,116,97,116,101])=false) (h35:(s.toList==[116,114,97,110,115,112,111,115,101])=false) (h36:(s.toList==[102,114,111,109])=false) (h37:(s.toList==[112,105,99,107])=false) (h38:(s.toList==[115,101,108,101,99,116])=false) (h39:(s.toList==[97,109,101,110,100])=false) (h40:(s.toList==[117,112])=false) (h41:(s.toList==[100,111,119,110])=false) (h42:(s.toList==[115,111,114,116])=false) (h43:(s.toList==[102,105,110,100])=false) (h44:(s.toList==[105,110])=false) (h45:(s.toList==[117,110,105,113,117,101])=false) (h46:(s.toList==[119,104,101,114,101])=false) (h47:(s.toList==[99,111,112,121])=false) (h48:(s.toList==[101,120,112,97,110,100])=false) (h49:(s.toList==[99,117,116])=true):Calls Tryz.prog 42 #[.string s] w fun e w'=>e=.returned (.bool true)/\w=w':=by
 go_enter Tryz.func42,Tryz.ntmps42
 go_wp2
 go_ret
 exact ⟨rfl,rfl⟩
theorem res_50 (s:ByteArray) (w:World) (h0:(s.toList==[88])=false) (h1:(s.toList==[89])=false) (h2:(s.toList==[70])=false) (h3:(s.toList==[71])=false) (h4:(s.toList==[115,101,108,102])=false) (h5:(s.toList==[97,114,103])=false) (h6:(s.toList==[43])=false) (h7:(s.toList==[45])=false) (h8:(s.toList==[42])=false) (h9:(s.toList==[37])=false) (h10:(s.toList==[124])=false) (h11:(s.toList==[94])=false) (h12:(s.toList==[109,105,110])=false) (h13:(s.toList==[109,97,120])=false) (h14:(s.toList==[60])=false) (h15:(s.toList==[60,61])=false) (h16:(s.toList==[61])=false) (h17:(s.toList==[126,61])=false) (h18:(s.toList==[62,61])=false) (h19:(s.toList==[62])=false) (h20:(s.toList==[97,110,100])=false) (h21:(s.toList==[111,114])=false) (h22:(s.toList==[110,111,116])=false) (h23:(s.toList==[115,104,97,112,101])=false) (h24:(s.toList==[114,101,115,104,97,112,101])=false) (h25:(s.toList==[116,97,108,108,121])=false) (h26:(s.toList==[100,101,112,116,104])=false) (h27:(s.toList==[44])=false) (h28:(s.toList==[115,116,97,99,107])=false) (h29:(s.toList==[105,111,116,97])=false) (h30:(s.toList==[116,97,107,101])=false) (h31:(s.toList==[100,114,111,112])=false) (h32:(s.toList==[102,105,114,115,116])=false) (h33:(s.toList==[114,101,118,101,114,115,101])=false) (h34:(s.toList==[114,111,116,97,116,101])=false) (h35:(s.toList==[116,114,97,110,115,112,111,115,101])=false) (h36:(s.toList==[102,114,111,109])=false) (h37:(s.toList==[112,105,99,107])=false) (h38:(s.toList==[115,101,108,101,99,116])=false) (h39:(s.toList==[97,109,101,110,100])=false) (h40:(s.toList==[117,112])=false) (h41:(s.toList==[100,111,119,110])=false) (h42:(s.toList==[115,111,114,116])=false) (h43:(s.toList==[102,105,110,100])=false) (h44:(s.toList==[105,110])=false) (h45:(s.toList==[117,110,105,113,117,101])=false) (h46:(s.toList==[119,104,101,114,101])=false) (h47:(s.toList==[99,111,112,121])=false) (h48:(s.toList==[101,120,112,97,110,100])=false) (h49:(s.toList==[99,117,116])=false) (h50:(s.toList==[101,110,99,111,100,101])=true):Calls Tryz.prog 42 #[.string s] w fun e w'=>e=.returned (.bool true)/\w=w':=by
 go_enter Tryz.func42,Tryz.ntmps42
 go_wp2
 go_ret
 exact ⟨rfl,rfl⟩
theorem res_51 (s:ByteArray) (w:World) (h0:(s.toList==[88])=false) (h1:(s.toList==[89])=false) (h2:(s.toList==[70])=false) (h3:(s.toList==[71])=false) (h4:(s.toList==[115,101,108,102])=false) (h5:(s.toList==[97,114,103])=false) (h6:(s.toList==[43])=false) (h7:(s.toList==[45])=false) (h8:(s.toList==[42])=false) (h9:(s.toList==[37])=false) (h10:(s.toList==[124])=false) (h11:(s.toList==[94])=false) (h12:(s.toList==[109,105,110])=false) (h13:(s.toList==[109,97,120])=false) (h14:(s.toList==[60])=false) (h15:(s.toList==[60,61])=false) (h16:(s.toList==[61])=false) (h17:(s.toList==[126,61])=false) (h18:(s.toList==[62,61])=false) (h19:(s.toList==[62])=false) (h20:(s.toList==[97,110,100])=false) (h21:(s.toList==[111,114])=false) (h22:(s.toList==[110,111,116])=false) (h23:(s.toList==[115,104,97,112,101])=false) (h24:(s.toList==[114,101,115,104,97,112,101])=false) (h25:(s.toList==[116,97,108,108,121])=false) (h26:(s.toList==[100,101,112,116,104])=false) (h27:(s.toList==[44])=false) (h28:(s.toList==[115,116,97,99,107])=false) (h29:(s.toList==[105,111,116,97])=false) (h30:(s.toList==[116,97,107,101])=false) (h31:(s.toList==[100,114,111,112])=false) (h32:(s.toList==[102,105,114,115,116])=false) (h33:(s.toList==[114,101,118,101,114,115,101])=false) (h34:(s.toList==[114,111,116,97,116,101])=false) (h35:(s.toList==[116,114,97,110,115,112,111,115,101])=false) (h36:(s.toList==[102,114,111,109])=false) (h37:(s.toList==[112,105,99,107])=false) (h38:(s.toList==[115,101,108,101,99,116])=false) (h39:(s.toList==[97,109,101,110,100])=false) (h40:(s.toList==[117,112])=false) (h41:(s.toList==[100,111,119,110])=false) (h42:(s.toList==[115,111,114,116])=false) (h43:(s.toList==[102,105,110,100])=false) (h44:(s.toList==[105,110])=false) (h45:(s.toList==[117,110,105,113,117,101])=false) (h46:(s.toList==[119,104,101,114,101])=false) (h47:(s.toList==[99,111,112,121])=false) (h48:(s.toList==[101,120,112,97,110,100])=false) (h49:(s.toList==[99,117,116])=false) (h50:(s.toList==[101,110,99,111,100,101])=false) (h51:(s.toList==[100,101,99,111,100,101])=true):Calls Tryz.prog 42 #[.string s] w fun e w'=>e=.returned (.bool true)/\w=w':=by
 go_enter Tryz.func42,Tryz.ntmps42
 go_wp2
 go_ret
 exact ⟨rfl,rfl⟩
theorem res_52 (s:ByteArray) (w:World) (h0:(s.toList==[88])=false) (h1:(s.toList==[89])=false) (h2:(s.toList==[70])=false) (h3:(s.toList==[71])=false) (h4:(s.toList==[115,101,108,102])=false) (h5:(s.toList==[97,114,103])=false) (h6:(s.toList==[43])=false) (h7:(s.toList==[45])=false) (h8:(s.toList==[42])=false) (h9:(s.toList==[37])=false) (h10:(s.toList==[124])=false) (h11:(s.toList==[94])=false) (h12:(s.toList==[109,105,110])=false) (h13:(s.toList==[109,97,120])=false) (h14:(s.toList==[60])=false) (h15:(s.toList==[60,61])=false) (h16:(s.toList==[61])=false) (h17:(s.toList==[126,61])=false) (h18:(s.toList==[62,61])=false) (h19:(s.toList==[62])=false) (h20:(s.toList==[97,110,100])=false) (h21:(s.toList==[111,114])=false) (h22:(s.toList==[110,111,116])=false) (h23:(s.toList==[115,104,97,112,101])=false) (h24:(s.toList==[114,101,115,104,97,112,101])=false) (h25:(s.toList==[116,97,108,108,121])=false) (h26:(s.toList==[100,101,112,116,104])=false) (h27:(s.toList==[44])=false) (h28:(s.toList==[115,116,97,99,107])=false) (h29:(s.toList==[105,111,116,97])=false) (h30:(s.toList==[116,97,107,101])=false) (h31:(s.toList==[100,114,111,112])=false) (h32:(s.toList==[102,105,114,115,116])=false) (h33:(s.toList==[114,101,118,101,114,115,101])=false) (h34:(s.toList==[114,111,116,97,116,101])=false) (h35:(s.toList==[116,114,97,110,115,112,111,115,101])=false) (h36:(s.toList==[102,114,111,109])=false) (h37:(s.toList==[112,105,99,107])=false) (h38:(s.toList==[115,101,108,101,99,116])=false) (h39:(s.toList==[97,109,101,110,100])=false) (h40:(s.toList==[117,112])=false) (h41:(s.toList==[100,111,119,110])=false) (h42:(s.toList==[115,111,114,116])=false) (h43:(s.toList==[102,105,110,100])=false) (h44:(s.toList==[105,110])=false) (h45:(s.toList==[117,110,105,113,117,101])=false) (h46:(s.toList==[119,104,101,114,101])=false) (h47:(s.toList==[99,111,112,121])=false) (h48:(s.toList==[101,120,112,97,110,100])=false) (h49:(s.toList==[99,117,116])=false) (h50:(s.toList==[101,110,99,111,100,101])=false) (h51:(s.toList==[100,101,99,111,100,101])=false) (h52:(s.toList==[98,111,120])=true):Calls Tryz.prog 42 #[.string s] w fun e w'=>e=.returned (.bool true)/\w=w':=by
 go_enter Tryz.func42,Tryz.ntmps42
 go_wp2
 go_ret
 exact ⟨rfl,rfl⟩
theorem res_53 (s:ByteArray) (w:World) (h0:(s.toList==[88])=false) (h1:(s.toList==[89])=false) (h2:(s.toList==[70])=false) (h3:(s.toList==[71])=false) (h4:(s.toList==[115,101,108,102])=false) (h5:(s.toList==[97,114,103])=false) (h6:(s.toList==[43])=false) (h7:(s.toList==[45])=false) (h8:(s.toList==[42])=false) (h9:(s.toList==[37])=false) (h10:(s.toList==[124])=false) (h11:(s.toList==[94])=false) (h12:(s.toList==[109,105,110])=false) (h13:(s.toList==[109,97,120])=false) (h14:(s.toList==[60])=false) (h15:(s.toList==[60,61])=false) (h16:(s.toList==[61])=false) (h17:(s.toList==[126,61])=false) (h18:(s.toList==[62,61])=false) (h19:(s.toList==[62])=false) (h20:(s.toList==[97,110,100])=false) (h21:(s.toList==[111,114])=false) (h22:(s.toList==[110,111,116])=false) (h23:(s.toList==[115,104,97,112,101])=false) (h24:(s.toList==[114,101,115,104,97,112,101])=false) (h25:(s.toList==[116,97,108,108,121])=false) (h26:(s.toList==[100,101,112,116,104])=false) (h27:(s.toList==[44])=false) (h28:(s.toList==[115,116,97,99,107])=false) (h29:(s.toList==[105,111,116,97])=false) (h30:(s.toList==[116,97,107,101])=false) (h31:(s.toList==[100,114,111,112])=false) (h32:(s.toList==[102,105,114,115,116])=false) (h33:(s.toList==[114,101,118,101,114,115,101])=false) (h34:(s.toList==[114,111,116,97,116,101])=false) (h35:(s.toList==[116,114,97,110,115,112,111,115,101])=false) (h36:(s.toList==[102,114,111,109])=false) (h37:(s.toList==[112,105,99,107])=false) (h38:(s.toList==[115,101,108,101,99,116])=false) (h39:(s.toList==[97,109,101,110,100])=false) (h40:(s.toList==[117,112])=false) (h41:(s.toList==[100,111,119,110])=false) (h42:(s.toList==[115,111,114,116])=false) (h43:(s.toList==[102,105,110,100])=false) (h44:(s.toList==[105,110])=false) (h45:(s.toList==[117,110,105,113,117,101])=false) (h46:(s.toList==[119,104,101,114,101])=false) (h47:(s.toList==[99,111,112,121])=false) (h48:(s.toList==[101,120,112,97,110,100])=false) (h49:(s.toList==[99,117,116])=false) (h50:(s.toList==[101,110,99,111,100,101])=false) (h51:(s.toList==[100,101,99,111,100,101])=false) (h52:(s.toList==[98,111,120])=false) (h53:(s.toList==[111,112,101,110])=true):Calls Tryz.prog 42 #[.string s] w fun e w'=>e=.returned (.bool true)/\w=w':=by
 go_enter Tryz.func42,Tryz.ntmps42
 go_wp2
 go_ret
 exact ⟨rfl,rfl⟩
theorem res_54 (s:ByteArray) (w:World) (h0:(s.toList==[88])=false) (h1:(s.toList==[89])=false) (h2:(s.toList==[70])=false) (h3:(s.toList==[71])=false) (h4:(s.toList==[115,101,108,102])=false) (h5:(s.toList==[97,114,103])=false) (h6:(s.toList==[43])=false) (h7:(s.toList==[45])=false) (h8:(s.toList==[42])=false) (h9:(s.toList==[37])=false) (h10:(s.toList==[124])=false) (h11:(s.toList==[94])=false) (h12:(s.toList==[109,105,110])=false) (h13:(s.toList==[109,97,120])=false) (h14:(s.toList==[60])=false) (h15:(s.toList==[60,61])=false) (h16:(s.toList==[61])=false) (h17:(s.toList==[126,61])=false) (h18:(s.toList==[62,61])=false) (h19:(s.toList==[62])=false) (h20:(s.toList==[97,110,100])=false) (h21:(s.toList==[111,114])=false) (h22:(s.toList==[110,111,116])=false) (h23:(s.toList==[115,104,97,112,101])=false) (h24:(s.toList==[114,101,115,104,97,112,101])=false) (h25:(s.toList==[116,97,108,108,121])=false) (h26:(s.toList==[100,101,112,116,104])=false) (h27:(s.toList==[44])=false) (h28:(s.toList==[115,116,97,99,107])=false) (h29:(s.toList==[105,111,116,97])=false) (h30:(s.toList==[116,97,107,101])=false) (h31:(s.toList==[100,114,111,112])=false) (h32:(s.toList==[102,105,114,115,116])=false) (h33:(s.toList==[114,101,118,101,114,115,101])=false) (h34:(s.toList==[114,111,116,97,116,101])=false) (h35:(s.toList==[116,114,97,110,115,112,111,115,101])=false) (h36:(s.toList==[102,114,111,109])=false) (h37:(s.toList==[112,105,99,107])=false) (h38:(s.toList==[115,101,108,101,99,116])=false) (h39:(s.toList==[97,109,101,110,100])=false) (h40:(s.toList==[117,112])=false) (h41:(s.toList==[100,111,119,110])=false) (h42:(s.toList==[115,111,114,116])=false) (h43:(s.toList==[102,105,110,100])=false) (h44:(s.toList==[105,110])=false) (h45:(s.toList==[117,110,105,113,117,101])=false) (h46:(s.toList==[119,104,101,114,101])=false) (h47:(s.toList==[99,111,112,121])=false) (h48:(s.toList==[101,120,112,97,110,100])=false) (h49:(s.toList==[99,117,116])=false) (h50:(s.toList==[101,110,99,111,100,101])=false) (h51:(s.toList==[100,101,99,111,100,101])=false) (h52:(s.toList==[98,111,120])=false) (h53:(s.toList==[111,112,101,110])=false) (h54:(s.toList==[115,97,109,101])=true):Calls Tryz.prog 42 #[.string s] w fun e w'=>e=.returned (.bool true)/\w=w':=by
 go_enter Tryz.func42,Tryz.ntmps42
 go_wp2
 go_ret
 exact ⟨rfl,rfl⟩
theorem res_55 (s:ByteArray) (w:World) (h0:(s.toList==[88])=false) (h1:(s.toList==[89])=false) (h2:(s.toList==[70])=false) (h3:(s.toList==[71])=false) (h4:(s.toList==[115,101,108,102])=false) (h5:(s.toList==[97,114,103])=false) (h6:(s.toList==[43])=false) (h7:(s.toList==[45])=false) (h8:(s.toList==[42])=false) (h9:(s.toList==[37])=false) (h10:(s.toList==[124])=false) (h11:(s.toList==[94])=false) (h12:(s.toList==[109,105,110])=false) (h13:(s.toList==[109,97,120])=false) (h14:(s.toList==[60])=false) (h15:(s.toList==[60,61])=false) (h16:(s.toList==[61])=false) (h17:(s.toList==[126,61])=false) (h18:(s.toList==[62,61])=false) (h19:(s.toList==[62])=false) (h20:(s.toList==[97,110,100])=false) (h21:(s.toList==[111,114])=false) (h22:(s.toList==[110,111,116])=false) (h23:(s.toList==[115,104,97,112,101])=false) (h24:(s.toList==[114,101,115,104,97,112,101])=false) (h25:(s.toList==[116,97,108,108,121])=false) (h26:(s.toList==[100,101,112,116,104])=false) (h27:(s.toList==[44])=false) (h28:(s.toList==[115,116,97,99,107])=false) (h29:(s.toList==[105,111,116,97])=false) (h30:(s.toList==[116,97,107,101])=false) (h31:(s.toList==[100,114,111,112])=false) (h32:(s.toList==[102,105,114,115,116])=false) (h33:(s.toList==[114,101,118,101,114,115,101])=false) (h34:(s.toList==[114,111,116,97,116,101])=false) (h35:(s.toList==[116,114,97,110,115,112,111,115,101])=false) (h36:(s.toList==[102,114,111,109])=false) (h37:(s.toList==[112,105,99,107])=false) (h38:(s.toList==[115,101,108,101,99,116])=false) (h39:(s.toList==[97,109,101,110,100])=false) (h40:(s.toList==[117,112])=false) (h41:(s.toList==[100,111,119,110])=false) (h42:(s.toList==[115,111,114,116])=false) (h43:(s.toList==[102,105,110,100])=false) (h44:(s.toList==[105,110])=false) (h45:(s.toList==[117,110,105,113,117,101])=false) (h46:(s.toList==[119,104,101,114,101])=false) (h47:(s.toList==[99,111,112,121])=false) (h48:(s.toList==[101,120,112,97,110,100])=false) (h49:(s.toList==[99,117,116])=false) (h50:(s.toList==[101,110,99,111,100,101])=false) (h51:(s.toList==[100,101,99,111,100,101])=false) (h52:(s.toList==[98,111,120])=false) (h53:(s.toList==[111,112,101,110])=false) (h54:(s.toList==[115,97,109,101])=false) (h55:(s.toList==[107,105,110,100])=true):Calls Tryz.prog 42 #[.string s] w fun e w'=>e=.returned (.bool true)/\w=w':=by
 go_enter Tryz.func42,Tryz.ntmps42
 go_wp2
 go_ret
 exact ⟨rfl,rfl⟩
theorem res_56 (s:ByteArray) (w:World) (h0:(s.toList==[88])=false) (h1:(s.toList==[89])=false) (h2:(s.toList==[70])=false) (h3:(s.toList==[71])=false) (h4:(s.toList==[115,101,108,102])=false) (h5:(s.toList==[97,114,103])=false) (h6:(s.toList==[43])=false) (h7:(s.toList==[45])=false) (h8:(s.toList==[42])=false) (h9:(s.toList==[37])=false) (h10:(s.toList==[124])=false) (h11:(s.toList==[94])=false) (h12:(s.toList==[109,105,110])=false) (h13:(s.toList==[109,97,120])=false) (h14:(s.toList==[60])=false) (h15:(s.toList==[60,61])=false) (h16:(s.toList==[61])=false) (h17:(s.toList==[126,61])=false) (h18:(s.toList==[62,61])=false) (h19:(s.toList==[62])=false) (h20:(s.toList==[97,110,100])=false) (h21:(s.toList==[111,114])=false) (h22:(s.toList==[110,111,116])=false) (h23:(s.toList==[115,104,97,112,101])=false) (h24:(s.toList==[114,101,115,104,97,112,101])=false) (h25:(s.toList==[116,97,108,108,121])=false) (h26:(s.toList==[100,101,112,116,104])=false) (h27:(s.toList==[44])=false) (h28:(s.toList==[115,116,97,99,107])=false) (h29:(s.toList==[105,111,116,97])=false) (h30:(s.toList==[116,97,107,101])=false) (h31:(s.toList==[100,114,111,112])=false) (h32:(s.toList==[102,105,114,115,116])=false) (h33:(s.toList==[114,101,118,101,114,115,101])=false) (h34:(s.toList==[114,111,116,97,116,101])=false) (h35:(s.toList==[116,114,97,110,115,112,111,115,101])=false) (h36:(s.toList==[102,114,111,109])=false) (h37:(s.toList==[112,105,99,107])=false) (h38:(s.toList==[115,101,108,101,99,116])=false) (h39:(s.toList==[97,109,101,110,100])=false) (h40:(s.toList==[117,112])=false) (h41:(s.toList==[100,111,119,110])=false) (h42:(s.toList==[115,111,114,116])=false) (h43:(s.toList==[102,105,110,100])=false) (h44:(s.toList==[105,110])=false) (h45:(s.toList==[117,110,105,113,117,101])=false) (h46:(s.toList==[119,104,101,114,101])=false) (h47:(s.toList==[99,111,112,121])=false) (h48:(s.toList==[101,120,112,97,110,100])=false) (h49:(s.toList==[99,117,116])=false) (h50:(s.toList==[101,110,99,111,100,101])=false) (h51:(s.toList==[100,101,99,111,100,101])=false) (h52:(s.toList==[98,111,120])=false) (h53:(s.toList==[111,112,101,110])=false) (h54:(s.toList==[115,97,109,101])=false) (h55:(s.toList==[107,105,110,100])=false) (h56:(s.toList==[111,114,100])=true):Calls Tryz.prog 42 #[.string s] w fun e w'=>e=.returned (.bool true)/\w=w':=by
 go_enter Tryz.func42,Tryz.ntmps42
 go_wp2
 go_ret
 exact ⟨rfl,rfl⟩
theorem res_57 (s:ByteArray) (w:World) (h0:(s.toList==[88])=false) (h1:(s.toList==[89])=false) (h2:(s.toList==[70])=false) (h3:(s.toList==[71])=false) (h4:(s.toList==[115,101,108,102])=false) (h5:(s.toList==[97,114,103])=false) (h6:(s.toList==[43])=false) (h7:(s.toList==[45])=false) (h8:(s.toList==[42])=false) (h9:(s.toList==[37])=false) (h10:(s.toList==[124])=false) (h11:(s.toList==[94])=false) (h12:(s.toList==[109,105,110])=false) (h13:(s.toList==[109,97,120])=false) (h14:(s.toList==[60])=false) (h15:(s.toList==[60,61])=false) (h16:(s.toList==[61])=false) (h17:(s.toList==[126,61])=false) (h18:(s.toList==[62,61])=false) (h19:(s.toList==[62])=false) (h20:(s.toList==[97,110,100])=false) (h21:(s.toList==[111,114])=false) (h22:(s.toList==[110,111,116])=false) (h23:(s.toList==[115,104,97,112,101])=false) (h24:(s.toList==[114,101,115,104,97,112,101])=false) (h25:(s.toList==[116,97,108,108,121])=false) (h26:(s.toList==[100,101,112,116,104])=false) (h27:(s.toList==[44])=false) (h28:(s.toList==[115,116,97,99,107])=false) (h29:(s.toList==[105,111,116,97])=false) (h30:(s.toList==[116,97,107,101])=false) (h31:(s.toList==[100,114,111,112])=false) (h32:(s.toList==[102,105,114,115,116])=false) (h33:(s.toList==[114,101,118,101,114,115,101])=false) (h34:(s.toList==[114,111,116,97,116,101])=false) (h35:(s.toList==[116,114,97,110,115,112,111,115,101])=false) (h36:(s.toList==[102,114,111,109])=false) (h37:(s.toList==[112,105,99,107])=false) (h38:(s.toList==[115,101,108,101,99,116])=false) (h39:(s.toList==[97,109,101,110,100])=false) (h40:(s.toList==[117,112])=false) (h41:(s.toList==[100,111,119,110])=false) (h42:(s.toList==[115,111,114,116])=false) (h43:(s.toList==[102,105,110,100])=false) (h44:(s.toList==[105,110])=false) (h45:(s.toList==[117,110,105,113,117,101])=false) (h46:(s.toList==[119,104,101,114,101])=false) (h47:(s.toList==[99,111,112,121])=false) (h48:(s.toList==[101,120,112,97,110,100])=false) (h49:(s.toList==[99,117,116])=false) (h50:(s.toList==[101,110,99,111,100,101])=false) (h51:(s.toList==[100,101,99,111,100,101])=false) (h52:(s.toList==[98,111,120])=false) (h53:(s.toList==[111,112,101,110])=false) (h54:(s.toList==[115,97,109,101])=false) (h55:(s.toList==[107,105,110,100])=false) (h56:(s.toList==[111,114,100])=false) (h57:(s.toList==[99,104,114])=true):Calls Tryz.prog 42 #[.string s] w fun e w'=>e=.returned (.bool true)/\w=w':=by
 go_enter Tryz.func42,Tryz.ntmps42
 go_wp2
 go_ret
 exact ⟨rfl,rfl⟩
theorem res_58 (s:ByteArray) (w:World) (h0:(s.toList==[88])=false) (h1:(s.toList==[89])=false) (h2:(s.toList==[70])=false) (h3:(s.toList==[71])=false) (h4:(s.toList==[115,101,108,102])=false) (h5:(s.toList==[97,114,103])=false) (h6:(s.toList==[43])=false) (h7:(s.toList==[45])=false) (h8:(s.toList==[42])=false) (h9:(s.toList==[37])=false) (h10:(s.toList==[124])=false) (h11:(s.toList==[94])=false) (h12:(s.toList==[109,105,110])=false) (h13:(s.toList==[109,97,120])=false) (h14:(s.toList==[60])=false) (h15:(s.toList==[60,61])=false) (h16:(s.toList==[61])=false) (h17:(s.toList==[126,61])=false) (h18:(s.toList==[62,61])=false) (h19:(s.toList==[62])=false) (h20:(s.toList==[97,110,100])=false) (h21:(s.toList==[111,114])=false) (h22:(s.toList==[110,111,116])=false) (h23:(s.toList==[115,104,97,112,101])=false) (h24:(s.toList==[114,101,115,104,97,112,101])=false) (h25:(s.toList==[116,97,108,108,121])=false) (h26:(s.toList==[100,101,112,116,104])=false) (h27:(s.toList==[44])=false) (h28:(s.toList==[115,116,97,99,107])=false) (h29:(s.toList==[105,111,116,97])=false) (h30:(s.toList==[116,97,107,101])=false) (h31:(s.toList==[100,114,111,112])=false) (h32:(s.toList==[102,105,114,115,116])=false) (h33:(s.toList==[114,101,118,101,114,115,101])=false) (h34:(s.toList==[114,111,116,97,116,101])=false) (h35:(s.toList==[116,114,97,110,115,112,111,115,101])=false) (h36:(s.toList==[102,114,111,109])=false) (h37:(s.toList==[112,105,99,107])=false) (h38:(s.toList==[115,101,108,101,99,116])=false) (h39:(s.toList==[97,109,101,110,100])=false) (h40:(s.toList==[117,112])=false) (h41:(s.toList==[100,111,119,110])=false) (h42:(s.toList==[115,111,114,116])=false) (h43:(s.toList==[102,105,110,100])=false) (h44:(s.toList==[105,110])=false) (h45:(s.toList==[117,110,105,113,117,101])=false) (h46:(s.toList==[119,104,101,114,101])=false) (h47:(s.toList==[99,111,112,121])=false) (h48:(s.toList==[101,120,112,97,110,100])=false) (h49:(s.toList==[99,117,116])=false) (h50:(s.toList==[101,110,99,111,100,101])=false) (h51:(s.toList==[100,101,99,111,100,101])=false) (h52:(s.toList==[98,111,120])=false) (h53:(s.toList==[111,112,101,110])=false) (h54:(s.toList==[115,97,109,101])=false) (h55:(s.toList==[107,105,110,100])=false) (h56:(s.toList==[111,114,100])=false) (h57:(s.toList==[99,104,114])=false) (h58:(s.toList==[102,111,114,109,97,116])=true):Calls Tryz.prog 42 #[.string s] w fun e w'=>e=.returned (.bool true)/\w=w':=by
 go_enter Tryz.func42,Tryz.ntmps42
 go_wp2
 go_ret
 exact ⟨rfl,rfl⟩
theorem res_59 (s:ByteArray) (w:World) (h0:(s.toList==[88])=false) (h1:(s.toList==[89])=false) (h2:(s.toList==[70])=false) (h3:(s.toList==[71])=false) (h4:(s.toList==[115,101,108,102])=false) (h5:(s.toList==[97,114,103])=false) (h6:(s.toList==[43])=false) (h7:(s.toList==[45])=false) (h8:(s.toList==[42])=false) (h9:(s.toList==[37])=false) (h10:(s.toList==[124])=false) (h11:(s.toList==[94])=false) (h12:(s.toList==[109,105,110])=false) (h13:(s.toList==[109,97,120])=false) (h14:(s.toList==[60])=false) (h15:(s.toList==[60,61])=false) (h16:(s.toList==[61])=false) (h17:(s.toList==[126,61])=false) (h18:(s.toList==[62,61])=false) (h19:(s.toList==[62])=false) (h20:(s.toList==[97,110,100])=false) (h21:(s.toList==[111,114])=false) (h22:(s.toList==[110,111,116])=false) (h23:(s.toList==[115,104,97,112,101])=false) (h24:(s.toList==[114,101,115,104,97,112,101])=false) (h25:(s.toList==[116,97,108,108,121])=false) (h26:(s.toList==[100,101,112,116,104])=false) (h27:(s.toList==[44])=false) (h28:(s.toList==[115,116,97,99,107])=false) (h29:(s.toList==[105,111,116,97])=false) (h30:(s.toList==[116,97,107,101])=false) (h31:(s.toList==[100,114,111,112])=false) (h32:(s.toList==[102,105,114,115,116])=false) (h33:(s.toList==[114,101,118,101,114,115,101])=false) (h34:(s.toList==[114,111,116,97,116,101])=false) (h35:(s.toList==[116,114,97,110,115,112,111,115,101])=false) (h36:(s.toList==[102,114,111,109])=false) (h37:(s.toList==[112,105,99,107])=false) (h38:(s.toList==[115,101,108,101,99,116])=false) (h39:(s.toList==[97,109,101,110,100])=false) (h40:(s.toList==[117,112])=false) (h41:(s.toList==[100,111,119,110])=false) (h42:(s.toList==[115,111,114,116])=false) (h43:(s.toList==[102,105,110,100])=false) (h44:(s.toList==[105,110])=false) (h45:(s.toList==[117,110,105,113,117,101])=false) (h46:(s.toList==[119,104,101,114,101])=false) (h47:(s.toList==[99,111,112,121])=false) (h48:(s.toList==[101,120,112,97,110,100])=false) (h49:(s.toList==[99,117,116])=false) (h50:(s.toList==[101,110,99,111,100,101])=false) (h51:(s.toList==[100,101,99,111,100,101])=false) (h52:(s.toList==[98,111,120])=false) (h53:(s.toList==[111,112,101,110])=false) (h54:(s.toList==[115,97,109,101])=false) (h55:(s.toList==[107,105,110,100])=false) (h56:(s.toList==[111,114,100])=false) (h57:(s.toList==[99,104,114])=false) (h58:(s.toList==[102,111,114,109,97,116])=false) (h59:(s.toList==[108,101,102,116])=true):Calls Tryz.prog 42 #[.string s] w fun e w'=>e=.returned (.bool true)/\w=w':=by
 go_enter Tryz.func42,Tryz.ntmps42
 go_wp2
 go_ret
 exact ⟨rfl,rfl⟩
theorem res_60 (s:ByteArray) (w:World) (h0:(s.toList==[88])=false) (h1:(s.toList==[89])=false) (h2:(s.toList==[70])=false) (h3:(s.toList==[71])=false) (h4:(s.toList==[115,101,108,102])=false) (h5:(s.toList==[97,114,103])=false) (h6:(s.toList==[43])=false) (h7:(s.toList==[45])=false) (h8:(s.toList==[42])=false) (h9:(s.toList==[37])=false) (h10:(s.toList==[124])=false) (h11:(s.toList==[94])=false) (h12:(s.toList==[109,105,110])=false) (h13:(s.toList==[109,97,120])=false) (h14:(s.toList==[60])=false) (h15:(s.toList==[60,61])=false) (h16:(s.toList==[61])=false) (h17:(s.toList==[126,61])=false) (h18:(s.toList==[62,61])=false) (h19:(s.toList==[62])=false) (h20:(s.toList==[97,110,100])=false) (h21:(s.toList==[111,114])=false) (h22:(s.toList==[110,111,116])=false) (h23:(s.toList==[115,104,97,112,101])=false) (h24:(s.toList==[114,101,115,104,97,112,101])=false) (h25:(s.toList==[116,97,108,108,121])=false) (h26:(s.toList==[100,101,112,116,104])=false) (h27:(s.toList==[44])=false) (h28:(s.toList==[115,116,97,99,107])=false) (h29:(s.toList==[105,111,116,97])=false) (h30:(s.toList==[116,97,107,101])=false) (h31:(s.toList==[100,114,111,112])=false) (h32:(s.toList==[102,105,114,115,116])=false) (h33:(s.toList==[114,101,118,101,114,115,101])=false) (h34:(s.toList==[114,111,116,97,116,101])=false) (h35:(s.toList==[116,114,97,110,115,112,111,115,101])=false) (h36:(s.toList==[102,114,111,109])=false) (h37:(s.toList==[112,105,99,107])=false) (h38:(s.toList==[115,101,108,101,99,116])=false) (h39:(s.toList==[97,109,101,110,100])=false) (h40:(s.toList==[117,112])=false) (h41:(s.toList==[100,111,119,110])=false) (h42:(s.toList==[115,111,114,116])=false) (h43:(s.toList==[102,105,110,100])=false) (h44:(s.toList==[105,110])=false) (h45:(s.toList==[117,110,105,113,117,101])=false) (h46:(s.toList==[119,104,101,114,101])=false) (h47:(s.toList==[99,111,112,121])=false) (h48:(s.toList==[101,120,112,97,110,100])=false) (h49:(s.toList==[99,117,116])=false) (h50:(s.toList==[101,110,99,111,100,101])=false) (h51:(s.toList==[100,101,99,111,100,101])=false) (h52:(s.toList==[98,111,120])=false) (h53:(s.toList==[111,112,101,110])=false) (h54:(s.toList==[115,97,109,101])=false) (h55:(s.toList==[107,105,110,100])=false) (h56:(s.toList==[111,114,100])=false) (h57:(s.toList==[99,104,114])=false) (h58:(s.toList==[102,111,114,109,97,116])=false) (h59:(s.toList==[108,101,102,116])=false) (h60:(s.toList==[114,105,103,104,116])=true):Calls Tryz.prog 42 #[.string s] w fun e w'=>e=.returned (.bool true)/\w=w':=by
 go_enter Tryz.func42,Tryz.ntmps42
 go_wp2
 go_ret
 exact ⟨rfl,rfl⟩
theorem res_61 (s:ByteArray) (w:World) (h0:(s.toList==[88])=false) (h1:(s.toList==[89])=false) (h2:(s.toList==[70])=false) (h3:(s.toList==[71])=false) (h4:(s.toList==[115,101,108,102])=false) (h5:(s.toList==[97,114,103])=false) (h6:(s.toList==[43])=false) (h7:(s.toList==[45])=false) (h8:(s.toList==[42])=false) (h9:(s.toList==[37])=false) (h10:(s.toList==[124])=false) (h11:(s.toList==[94])=false) (h12:(s.toList==[109,105,110])=false) (h13:(s.toList==[109,97,120])=false) (h14:(s.toList==[60])=false) (h15:(s.toList==[60,61])=false) (h16:(s.toList==[61])=false) (h17:(s.toList==[126,61])=false) (h18:(s.toList==[62,61])=false) (h19:(s.toList==[62])=false) (h20:(s.toList==[97,110,100])=false) (h21:(s.toList==[111,114])=false) (h22:(s.toList==[110,111,116])=false) (h23:(s.toList==[115,104,97,112,101])=false) (h24:(s.toList==[114,101,115,104,97,112,101])=false) (h25:(s.toList==[116,97,108,108,121])=false) (h26:(s.toList==[100,101,112,116,104])=false) (h27:(s.toList==[44])=false) (h28:(s.toList==[115,116,97,99,107])=false) (h29:(s.toList==[105,111,116,97])=false) (h30:(s.toList==[116,97,107,101])=false) (h31:(s.toList==[100,114,111,112])=false) (h32:(s.toList==[102,105,114,115,116])=false) (h33:(s.toList==[114,101,118,101,114,115,101])=false) (h34:(s.toList==[114,111,116,97,116,101])=false) (h35:(s.toList==[116,114,97,110,115,112,111,115,101])=false) (h36:(s.toList==[102,114,111,109])=false) (h37:(s.toList==[112,105,99,107])=false) (h38:(s.toList==[115,101,108,101,99,116])=false) (h39:(s.toList==[97,109,101,110,100])=false) (h40:(s.toList==[117,112])=false) (h41:(s.toList==[100,111,119,110])=false) (h42:(s.toList==[115,111,114,116])=false) (h43:(s.toList==[102,105,110,100])=false) (h44:(s.toList==[105,110])=false) (h45:(s.toList==[117,110,105,113,117,101])=false) (h46:(s.toList==[119,104,101,114,101])=false) (h47:(s.toList==[99,111,112,121])=false) (h48:(s.toList==[101,120,112,97,110,100])=false) (h49:(s.toList==[99,117,116])=false) (h50:(s.toList==[101,110,99,111,100,101])=false) (h51:(s.toList==[100,101,99,111,100,101])=false) (h52:(s.toList==[98,111,120])=false) (h53:(s.toList==[111,112,101,110])=false) (h54:(s.toList==[115,97,109,101])=false) (h55:(s.toList==[107,105,110,100])=false) (h56:(s.toList==[111,114,100])=false) (h57:(s.toList==[99,104,114])=false) (h58:(s.toList==[102,111,114,109,97,116])=false) (h59:(s.toList==[108,101,102,116])=false) (h60:(s.toList==[114,105,103,104,116])=false) (h61:(s.toList==[47])=true):Calls Tryz.prog 42 #[.string s] w fun e w'=>e=.returned (.bool true)/\w=w':=by
 go_enter Tryz.func42,Tryz.ntmps42
 go_wp2
 go_ret
 exact ⟨rfl,rfl⟩
theorem res_62 (s:ByteArray) (w:World) (h0:(s.toList==[88])=false) (h1:(s.toList==[89])=false) (h2:(s.toList==[70])=false) (h3:(s.toList==[71])=false) (h4:(s.toList==[115,101,108,102])=false) (h5:(s.toList==[97,114,103])=false) (h6:(s.toList==[43])=false) (h7:(s.toList==[45])=false) (h8:(s.toList==[42])=false) (h9:(s.toList==[37])=false) (h10:(s.toList==[124])=false) (h11:(s.toList==[94])=false) (h12:(s.toList==[109,105,110])=false) (h13:(s.toList==[109,97,120])=false) (h14:(s.toList==[60])=false) (h15:(s.toList==[60,61])=false) (h16:(s.toList==[61])=false) (h17:(s.toList==[126,61])=false) (h18:(s.toList==[62,61])=false) (h19:(s.toList==[62])=false) (h20:(s.toList==[97,110,100])=false) (h21:(s.toList==[111,114])=false) (h22:(s.toList==[110,111,116])=false) (h23:(s.toList==[115,104,97,112,101])=false) (h24:(s.toList==[114,101,115,104,97,112,101])=false) (h25:(s.toList==[116,97,108,108,121])=false) (h26:(s.toList==[100,101,112,116,104])=false) (h27:(s.toList==[44])=false) (h28:(s.toList==[115,116,97,99,107])=false) (h29:(s.toList==[105,111,116,97])=false) (h30:(s.toList==[116,97,107,101])=false) (h31:(s.toList==[100,114,111,112])=false) (h32:(s.toList==[102,105,114,115,116])=false) (h33:(s.toList==[114,101,118,101,114,115,101])=false) (h34:(s.toList==[114,111,116,97,116,101])=false) (h35:(s.toList==[116,114,97,110,115,112,111,115,101])=false) (h36:(s.toList==[102,114,111,109])=false) (h37:(s.toList==[112,105,99,107])=false) (h38:(s.toList==[115,101,108,101,99,116])=false) (h39:(s.toList==[97,109,101,110,100])=false) (h40:(s.toList==[117,112])=false) (h41:(s.toList==[100,111,119,110])=false) (h42:(s.toList==[115,111,114,116])=false) (h43:(s.toList==[102,105,110,100])=false) (h44:(s.toList==[105,110])=false) (h45:(s.toList==[117,110,105,113,117,101])=false) (h46:(s.toList==[119,104,101,114,101])=false) (h47:(s.toList==[99,111,112,121])=false) (h48:(s.toList==[101,120,112,97,110,100])=false) (h49:(s.toList==[99,117,116])=false) (h50:(s.toList==[101,110,99,111,100,101])=false) (h51:(s.toList==[100,101,99,111,100,101])=false) (h52:(s.toList==[98,111,120])=false) (h53:(s.toList==[111,112,101,110])=false) (h54:(s.toList==[115,97,109,101])=false) (h55:(s.toList==[107,105,110,100])=false) (h56:(s.toList==[111,114,100])=false) (h57:(s.toList==[99,104,114])=false) (h58:(s.toList==[102,111,114,109,97,116])=false) (h59:(s.toList==[108,101,102,116])=false) (h60:(s.toList==[114,105,103,104,116])=false) (h61:(s.toList==[47])=false) (h62:(s.toList==[92])=true):Calls Tryz.prog 42 #[.string s] w fun e w'=>e=.returned (.bool true)/\w=w':=by
 go_enter Tryz.func42,Tryz.ntmps42
 go_wp2
 go_ret
 exact ⟨rfl,rfl⟩
theorem res_63 (s:ByteArray) (w:World) (h0:(s.toList==[88])=false) (h1:(s.toList==[89])=false) (h2:(s.toList==[70])=false) (h3:(s.toList==[71])=false) (h4:(s.toList==[115,101,108,102])=false) (h5:(s.toList==[97,114,103])=false) (h6:(s.toList==[43])=false) (h7:(s.toList==[45])=false) (h8:(s.toList==[42])=false) (h9:(s.toList==[37])=false) (h10:(s.toList==[124])=false) (h11:(s.toList==[94])=false) (h12:(s.toList==[109,105,110])=false) (h13:(s.toList==[109,97,120])=false) (h14:(s.toList==[60])=false) (h15:(s.toList==[60,61])=false) (h16:(s.toList==[61])=false) (h17:(s.toList==[126,61])=false) (h18:(s.toList==[62,61])=false) (h19:(s.toList==[62])=false) (h20:(s.toList==[97,110,100])=false) (h21:(s.toList==[111,114])=false) (h22:(s.toList==[110,111,116])=false) (h23:(s.toList==[115,104,97,112,101])=false) (h24:(s.toList==[114,101,115,104,97,112,101])=false) (h25:(s.toList==[116,97,108,108,121])=false) (h26:(s.toList==[100,101,112,116,104])=false) (h27:(s.toList==[44])=false) (h28:(s.toList==[115,116,97,99,107])=false) (h29:(s.toList==[105,111,116,97])=false) (h30:(s.toList==[116,97,107,101])=false) (h31:(s.toList==[100,114,111,112])=false) (h32:(s.toList==[102,105,114,115,116])=false) (h33:(s.toList==[114,101,118,101,114,115,101])=false) (h34:(s.toList==[114,111,116,97,116,101])=false) (h35:(s.toList==[116,114,97,110,115,112,111,115,101])=false) (h36:(s.toList==[102,114,111,109])=false) (h37:(s.toList==[112,105,99,107])=false) (h38:(s.toList==[115,101,108,101,99,116])=false) (h39:(s.toList==[97,109,101,110,100])=false) (h40:(s.toList==[117,112])=false) (h41:(s.toList==[100,111,119,110])=false) (h42:(s.toList==[115,111,114,116])=false) (h43:(s.toList==[102,105,110,100])=false) (h44:(s.toList==[105,110])=false) (h45:(s.toList==[117,110,105,113,117,101])=false) (h46:(s.toList==[119,104,101,114,101])=false) (h47:(s.toList==[99,111,112,121])=false) (h48:(s.toList==[101,120,112,97,110,100])=false) (h49:(s.toList==[99,117,116])=false) (h50:(s.toList==[101,110,99,111,100,101])=false) (h51:(s.toList==[100,101,99,111,100,101])=false) (h52:(s.toList==[98,111,120])=false) (h53:(s.toList==[111,112,101,110])=false) (h54:(s.toList==[115,97,109,101])=false) (h55:(s.toList==[107,105,110,100])=false) (h56:(s.toList==[111,114,100])=false) (h57:(s.toList==[99,104,114])=false) (h58:(s.toList==[102,111,114,109,97,116])=false) (h59:(s.toList==[108,101,102,116])=false) (h60:(s.toList==[114,105,103,104,116])=false) (h61:(s.toList==[47])=false) (h62:(s.toList==[92])=false) (h63:(s.toList==[101,97,99,104])=true):Calls Tryz.prog 42 #[.string s] w fun e w'=>e=.returned (.bool true)/\w=w':=by
 go_enter Tryz.func42,Tryz.ntmps42
 go_wp2
 go_ret
 exact ⟨rfl,rfl⟩
theorem res_64 (s:ByteArray) (w:World) (h0:(s.toList==[88])=false) (h1:(s.toList==[89])=false) (h2:(s.toList==[70])=false) (h3:(s.toList==[71])=false) (h4:(s.toList==[115,101,108,102])=false) (h5:(s.toList==[97,114,103])=false) (h6:(s.toList==[43])=false) (h7:(s.toList==[45])=false) (h8:(s.toList==[42])=false) (h9:(s.toList==[37])=false) (h10:(s.toList==[124])=false) (h11:(s.toList==[94])=false) (h12:(s.toList==[109,105,110])=false) (h13:(s.toList==[109,97,120])=false) (h14:(s.toList==[60])=false) (h15:(s.toList==[60,61])=false) (h16:(s.toList==[61])=false) (h17:(s.toList==[126,61])=false) (h18:(s.toList==[62,61])=false) (h19:(s.toList==[62])=false) (h20:(s.toList==[97,110,100])=false) (h21:(s.toList==[111,114])=false) (h22:(s.toList==[110,111,116])=false) (h23:(s.toList==[115,104,97,112,101])=false) (h24:(s.toList==[114,101,115,104,97,112,101])=false) (h25:(s.toList==[116,97,108,108,121])=false) (h26:(s.toList==[100,101,112,116,104])=false) (h27:(s.toList==[44])=false) (h28:(s.toList==[115,116,97,99,107])=false) (h29:(s.toList==[105,111,116,97])=false) (h30:(s.toList==[116,97,107,101])=false) (h31:(s.toList==[100,114,111,112])=false) (h32:(s.toList==[102,105,114,115,116])=false) (h33:(s.toList==[114,101,118,101,114,115,101])=false) (h34:(s.toList==[114,111,116,97,116,101])=false) (h35:(s.toList==[116,114,97,110,115,112,111,115,101])=false) (h36:(s.toList==[102,114,111,109])=false) (h37:(s.toList==[112,105,99,107])=false) (h38:(s.toList==[115,101,108,101,99,116])=false) (h39:(s.toList==[97,109,101,110,100])=false) (h40:(s.toList==[117,112])=false) (h41:(s.toList==[100,111,119,110])=false) (h42:(s.toList==[115,111,114,116])=false) (h43:(s.toList==[102,105,110,100])=false) (h44:(s.toList==[105,110])=false) (h45:(s.toList==[117,110,105,113,117,101])=false) (h46:(s.toList==[119,104,101,114,101])=false) (h47:(s.toList==[99,111,112,121])=false) (h48:(s.toList==[101,120,112,97,110,100])=false) (h49:(s.toList==[99,117,116])=false) (h50:(s.toList==[101,110,99,111,100,101])=false) (h51:(s.toList==[100,101,99,111,100,101])=false) (h52:(s.toList==[98,111,120])=false) (h53:(s.toList==[111,112,101,110])=false) (h54:(s.toList==[115,97,109,101])=false) (h55:(s.toList==[107,105,110,100])=false) (h56:(s.toList==[111,114,100])=false) (h57:(s.toList==[99,104,114])=false) (h58:(s.toList==[102,111,114,109,97,116])=false) (h59:(s.toList==[108,101,102,116])=false) (h60:(s.toList==[114,105,103,104,116])=false) (h61:(s.toList==[47])=false) (h62:(s.toList==[92])=false) (h63:(s.toList==[101,97,99,104])=false) (h64:(s.toList==[115,119,97,112])=true):Calls Tryz.prog 42 #[.string s] w fun e w'=>e=.returned (.bool true)/\w=w':=by
 go_enter Tryz.func42,Tryz.ntmps42
 go_wp2
 go_ret
 exact ⟨rfl,rfl⟩
theorem res_65 (s:ByteArray) (w:World) (h0:(s.toList==[88])=false) (h1:(s.toList==[89])=false) (h2:(s.toList==[70])=false) (h3:(s.toList==[71])=false) (h4:(s.toList==[115,101,108,102])=false) (h5:(s.toList==[97,114,103])=false) (h6:(s.toList==[43])=false) (h7:(s.toList==[45])=false) (h8:(s.toList==[42])=false) (h9:(s.toList==[37])=false) (h10:(s.toList==[124])=false) (h11:(s.toList==[94])=false) (h12:(s.toList==[109,105,110])=false) (h13:(s.toList==[109,97,120])=false) (h14:(s.toList==[60])=false) (h15:(s.toList==[60,61])=false) (h16:(s.toList==[61])=false) (h17:(s.toList==[126,61])=false) (h18:(s.toList==[62,61])=false) (h19:(s.toList==[62])=false) (h20:(s.toList==[97,110,100])=false) (h21:(s.toList==[111,114])=false) (h22:(s.toList==[110,111,116])=false) (h23:(s.toList==[115,104,97,112,101])=false) (h24:(s.toList==[114,101,115,104,97,112,101])=false) (h25:(s.toList==[116,97,108,108,121])=false) (h26:(s.toList==[100,101,112,116,104])=false) (h27:(s.toList==[44])=false) (h28:(s.toList==[115,116,97,99,107])=false) (h29:(s.toList==[105,111,116,97])=false) (h30:(s.toList==[116,97,107,101])=false) (h31:(s.toList==[100,114,111,112])=false) (h32:(s.toList==[102,105,114,115,116])=false) (h33:(s.toList==[114,101,118,101,114,115,101])=false) (h34:(s.toList==[114,111,116,97,116,101])=false) (h35:(s.toList==[116,114,97,110,115,112,111,115,101])=false) (h36:(s.toList==[102,114,111,109])=false) (h37:(s.toList==[112,105,99,107])=false) (h38:(s.toList==[115,101,108,101,99,116])=false) (h39:(s.toList==[97,109,101,110,100])=false) (h40:(s.toList==[117,112])=false) (h41:(s.toList==[100,111,119,110])=false) (h42:(s.toList==[115,111,114,116])=false) (h43:(s.toList==[102,105,110,100])=false) (h44:(s.toList==[105,110])=false) (h45:(s.toList==[117,110,105,113,117,101])=false) (h46:(s.toList==[119,104,101,114,101])=false) (h47:(s.toList==[99,111,112,121])=false) (h48:(s.toList==[101,120,112,97,110,100])=false) (h49:(s.toList==[99,117,116])=false) (h50:(s.toList==[101,110,99,111,100,101])=false) (h51:(s.toList==[100,101,99,111,100,101])=false) (h52:(s.toList==[98,111,120])=false) (h53:(s.toList==[111,112,101,110])=false) (h54:(s.toList==[115,97,109,101])=false) (h55:(s.toList==[107,105,110,100])=false) (h56:(s.toList==[111,114,100])=false) (h57:(s.toList==[99,104,114])=false) (h58:(s.toList==[102,111,114,109,97,116])=false) (h59:(s.toList==[108,101,102,116])=false) (h60:(s.toList==[114,105,103,104,116])=false) (h61:(s.toList==[47])=false) (h62:(s.toList==[92])=false) (h63:(s.toList==[101,97,99,104])=false) (h64:(s.toList==[115,119,97,112])=false) (h65:(s.toList==[111,117,116,101,114])=true):Calls Tryz.prog 42 #[.string s] w fun e w'=>e=.returned (.bool true)/\w=w':=by
 go_enter Tryz.func42,Tryz.ntmps42
 go_wp2
 go_ret
 exact ⟨rfl,rfl⟩
theorem res_66 (s:ByteArray) (w:World) (h0:(s.toList==[88])=false) (h1:(s.toList==[89])=false) (h2:(s.toList==[70])=false) (h3:(s.toList==[71])=false) (h4:(s.toList==[115,101,108,102])=false) (h5:(s.toList==[97,114,103])=false) (h6:(s.toList==[43])=false) (h7:(s.toList==[45])=false) (h8:(s.toList==[42])=false) (h9:(s.toList==[37])=false) (h10:(s.toList==[124])=false) (h11:(s.toList==[94])=false) (h12:(s.toList==[109,105,110])=false) (h13:(s.toList==[109,97,120])=false) (h14:(s.toList==[60])=false) (h15:(s.toList==[60,61])=false) (h16:(s.toList==[61])=false) (h17:(s.toList==[126,61])=false) (h18:(s.toList==[62,61])=false) (h19:(s.toList==[62])=false) (h20:(s.toList==[97,110,100])=false) (h21:(s.toList==[111,114])=false) (h22:(s.toList==[110,111,116])=false) (h23:(s.toList==[115,104,97,112,101])=false) (h24:(s.toList==[114,101,115,104,97,112,101])=false) (h25:(s.toList==[116,97,108,108,121])=false) (h26:(s.toList==[100,101,112,116,104])=false) (h27:(s.toList==[44])=false) (h28:(s.toList==[115,116,97,99,107])=false) (h29:(s.toList==[105,111,116,97])=false) (h30:(s.toList==[116,97,107,101])=false) (h31:(s.toList==[100,114,111,112])=false) (h32:(s.toList==[102,105,114,115,116])=false) (h33:(s.toList==[114,101,118,101,114,115,101])=false) (h34:(s.toList==[114,111,116,97,116,101])=false) (h35:(s.toList==[116,114,97,110,115,112,111,115,101])=false) (h36:(s.toList==[102,114,111,109])=false) (h37:(s.toList==[112,105,99,107])=false) (h38:(s.toList==[115,101,108,101,99,116])=false) (h39:(s.toList==[97,109,101,110,100])=false) (h40:(s.toList==[117,112])=false) (h41:(s.toList==[100,111,119,110])=false) (h42:(s.toList==[115,111,114,116])=false) (h43:(s.toList==[102,105,110,100])=false) (h44:(s.toList==[105,110])=false) (h45:(s.toList==[117,110,105,113,117,101])=false) (h46:(s.toList==[119,104,101,114,101])=false) (h47:(s.toList==[99,111,112,121])=false) (h48:(s.toList==[101,120,112,97,110,100])=false) (h49:(s.toList==[99,117,116])=false) (h50:(s.toList==[101,110,99,111,100,101])=false) (h51:(s.toList==[100,101,99,111,100,101])=false) (h52:(s.toList==[98,111,120])=false) (h53:(s.toList==[111,112,101,110])=false) (h54:(s.toList==[115,97,109,101])=false) (h55:(s.toList==[107,105,110,100])=false) (h56:(s.toList==[111,114,100])=false) (h57:(s.toList==[99,104,114])=false) (h58:(s.toList==[102,111,114,109,97,116])=false) (h59:(s.toList==[108,101,102,116])=false) (h60:(s.toList==[114,105,103,104,116])=false) (h61:(s.toList==[47])=false) (h62:(s.toList==[92])=false) (h63:(s.toList==[101,97,99,104])=false) (h64:(s.toList==[115,119,97,112])=false) (h65:(s.toList==[111,117,116,101,114])=false) (h66:(s.toList==[105,110,110,101,114])=true):Calls Tryz.prog 42 #[.string s] w fun e w'=>e=.returned (.bool true)/\w=w':=by
 go_enter Tryz.func42,Tryz.ntmps42
 go_wp2
 go_ret
 exact ⟨rfl,rfl⟩
theorem res_67 (s:ByteArray) (w:World) (h0:(s.toList==[88])=false) (h1:(s.toList==[89])=false) (h2:(s.toList==[70])=false) (h3:(s.toList==[71])=false) (h4:(s.toList==[115,101,108,102])=false) (h5:(s.toList==[97,114,103])=false) (h6:(s.toList==[43])=false) (h7:(s.toList==[45])=false) (h8:(s.toList==[42])=false) (h9:(s.toList==[37])=false) (h10:(s.toList==[124])=false) (h11:(s.toList==[94])=false) (h12:(s.toList==[109,105,110])=false) (h13:(s.toList==[109,97,120])=false) (h14:(s.toList==[60])=false) (h15:(s.toList==[60,61])=false) (h16:(s.toList==[61])=false) (h17:(s.toList==[126,61])=false) (h18:(s.toList==[62,61])=false) (h19:(s.toList==[62])=false) (h20:(s.toList==[97,110,100])=false) (h21:(s.toList==[111,114])=false) (h22:(s.toList==[110,111,116])=false) (h23:(s.toList==[115,104,97,112,101])=false) (h24:(s.toList==[114,101,115,104,97,112,101])=false) (h25:(s.toList==[116,97,108,108,121])=false) (h26:(s.toList==[100,101,112,116,104])=false) (h27:(s.toList==[44])=false) (h28:(s.toList==[115,116,97,99,107])=false) (h29:(s.toList==[105,111,116,97])=false) (h30:(s.toList==[116,97,107,101])=false) (h31:(s.toList==[100,114,111,112])=false) (h32:(s.toList==[102,105,114,115,116])=false) (h33:(s.toList==[114,101,118,101,114,115,101])=false) (h34:(s.toList==[114,111,116,97,116,101])=false) (h35:(s.toList==[116,114,97,110,115,112,111,115,101])=false) (h36:(s.toList==[102,114,111,109])=false) (h37:(s.toList==[112,105,99,107])=false) (h38:(s.toList==[115,101,108,101,99,116])=false) (h39:(s.toList==[97,109,101,110,100])=false) (h40:(s.toList==[117,112])=false) (h41:(s.toList==[100,111,119,110])=false) (h42:(s.toList==[115,111,114,116])=false) (h43:(s.toList==[102,105,110,100])=false) (h44:(s.toList==[105,110])=false) (h45:(s.toList==[117,110,105,113,117,101])=false) (h46:(s.toList==[119,104,101,114,101])=false) (h47:(s.toList==[99,111,112,121])=false) (h48:(s.toList==[101,120,112,97,110,100])=false) (h49:(s.toList==[99,117,116])=false) (h50:(s.toList==[101,110,99,111,100,101])=false) (h51:(s.toList==[100,101,99,111,100,101])=false) (h52:(s.toList==[98,111,120])=false) (h53:(s.toList==[111,112,101,110])=false) (h54:(s.toList==[115,97,109,101])=false) (h55:(s.toList==[107,105,110,100])=false) (h56:(s.toList==[111,114,100])=false) (h57:(s.toList==[99,104,114])=false) (h58:(s.toList==[102,111,114,109,97,116])=false) (h59:(s.toList==[108,101,102,116])=false) (h60:(s.toList==[114,105,103,104,116])=false) (h61:(s.toList==[47])=false) (h62:(s.toList==[92])=false) (h63:(s.toList==[101,97,99,104])=false) (h64:(s.toList==[115,119,97,112])=false) (h65:(s.toList==[111,117,116,101,114])=false) (h66:(s.toList==[105,110,110,101,114])=false) (h67:(s.toList==[97,116,111,112])=true):Calls Tryz.prog 42 #[.string s] w fun e w'=>e=.returned (.bool true)/\w=w':=by
 go_enter Tryz.func42,Tryz.ntmps42
 go_wp2
 go_ret
 exact ⟨rfl,rfl⟩
theorem res_68 (s:ByteArray) (w:World) (h0:(s.toList==[88])=false) (h1:(s.toList==[89])=false) (h2:(s.toList==[70])=false) (h3:(s.toList==[71])=false) (h4:(s.toList==[115,101,108,102])=false) (h5:(s.toList==[97,114,103])=false) (h6:(s.toList==[43])=false) (h7:(s.toList==[45])=false) (h8:(s.toList==[42])=false) (h9:(s.toList==[37])=false) (h10:(s.toList==[124])=false) (h11:(s.toList==[94])=false) (h12:(s.toList==[109,105,110])=false) (h13:(s.toList==[109,97,120])=false) (h14:(s.toList==[60])=false) (h15:(s.toList==[60,61])=false) (h16:(s.toList==[61])=false) (h17:(s.toList==[126,61])=false) (h18:(s.toList==[62,61])=false) (h19:(s.toList==[62])=false) (h20:(s.toList==[97,110,100])=false) (h21:(s.toList==[111,114])=false) (h22:(s.toList==[110,111,116])=false) (h23:(s.toList==[115,104,97,112,101])=false) (h24:(s.toList==[114,101,115,104,97,112,101])=false) (h25:(s.toList==[116,97,108,108,121])=false) (h26:(s.toList==[100,101,112,116,104])=false) (h27:(s.toList==[44])=false) (h28:(s.toList==[115,116,97,99,107])=false) (h29:(s.toList==[105,111,116,97])=false) (h30:(s.toList==[116,97,107,101])=false) (h31:(s.toList==[100,114,111,112])=false) (h32:(s.toList==[102,105,114,115,116])=false) (h33:(s.toList==[114,101,118,101,114,115,101])=false) (h34:(s.toList==[114,111,116,97,116,101])=false) (h35:(s.toList==[116,114,97,110,115,112,111,115,101])=false) (h36:(s.toList==[102,114,111,109])=false) (h37:(s.toList==[112,105,99,107])=false) (h38:(s.toList==[115,101,108,101,99,116])=false) (h39:(s.toList==[97,109,101,110,100])=false) (h40:(s.toList==[117,112])=false) (h41:(s.toList==[100,111,119,110])=false) (h42:(s.toList==[115,111,114,116])=false) (h43:(s.toList==[102,105,110,100])=false) (h44:(s.toList==[105,110])=false) (h45:(s.toList==[117,110,105,113,117,101])=false) (h46:(s.toList==[119,104,101,114,101])=false) (h47:(s.toList==[99,111,112,121])=false) (h48:(s.toList==[101,120,112,97,110,100])=false) (h49:(s.toList==[99,117,116])=false) (h50:(s.toList==[101,110,99,111,100,101])=false) (h51:(s.toList==[100,101,99,111,100,101])=false) (h52:(s.toList==[98,111,120])=false) (h53:(s.toList==[111,112,101,110])=false) (h54:(s.toList==[115,97,109,101])=false) (h55:(s.toList==[107,105,110,100])=false) (h56:(s.toList==[111,114,100])=false) (h57:(s.toList==[99,104,114])=false) (h58:(s.toList==[102,111,114,109,97,116])=false) (h59:(s.toList==[108,101,102,116])=false) (h60:(s.toList==[114,105,103,104,116])=false) (h61:(s.toList==[47])=false) (h62:(s.toList==[92])=false) (h63:(s.toList==[101,97,99,104])=false) (h64:(s.toList==[115,119,97,112])=false) (h65:(s.toList==[111,117,116,101,114])=false) (h66:(s.toList==[105,110,110,101,114])=false) (h67:(s.toList==[97,116,111,112])=false) (h68:(s.toList==[111,118,101,114])=true):Calls Tryz.prog 42 #[.string s] w fun e w'=>e=.returned (.bool true)/\w=w':=by
 go_enter Tryz.func42,Tryz.ntmps42
 go_wp2
 go_ret
 exact ⟨rfl,rfl⟩
theorem res_69 (s:ByteArray) (w:World) (h0:(s.toList==[88])=false) (h1:(s.toList==[89])=false) (h2:(s.toList==[70])=false) (h3:(s.toList==[71])=false) (h4:(s.toList==[115,101,108,102])=false) (h5:(s.toList==[97,114,103])=false) (h6:(s.toList==[43])=false) (h7:(s.toList==[45])=false) (h8:(s.toList==[42])=false) (h9:(s.toList==[37])=false) (h10:(s.toList==[124])=false) (h11:(s.toList==[94])=false) (h12:(s.toList==[109,105,110])=false) (h13:(s.toList==[109,97,120])=false) (h14:(s.toList==[60])=false) (h15:(s.toList==[60,61])=false) (h16:(s.toList==[61])=false) (h17:(s.toList==[126,61])=false) (h18:(s.toList==[62,61])=false) (h19:(s.toList==[62])=false) (h20:(s.toList==[97,110,100])=false) (h21:(s.toList==[111,114])=false) (h22:(s.toList==[110,111,116])=false) (h23:(s.toList==[115,104,97,112,101])=false) (h24:(s.toList==[114,101,115,104,97,112,101])=false) (h25:(s.toList==[116,97,108,108,121])=false) (h26:(s.toList==[100,101,112,116,104])=false) (h27:(s.toList==[44])=false) (h28:(s.toList==[115,116,97,99,107])=false) (h29:(s.toList==[105,111,116,97])=false) (h30:(s.toList==[116,97,107,101])=false) (h31:(s.toList==[100,114,111,112])=false) (h32:(s.toList==[102,105,114,115,116])=false) (h33:(s.toList==[114,101,118,101,114,115,101])=false) (h34:(s.toList==[114,111,116,97,116,101])=false) (h35:(s.toList==[116,114,97,110,115,112,111,115,101])=false) (h36:(s.toList==[102,114,111,109])=false) (h37:(s.toList==[112,105,99,107])=false) (h38:(s.toList==[115,101,108,101,99,116])=false) (h39:(s.toList==[97,109,101,110,100])=false) (h40:(s.toList==[117,112])=false) (h41:(s.toList==[100,111,119,110])=false) (h42:(s.toList==[115,111,114,116])=false) (h43:(s.toList==[102,105,110,100])=false) (h44:(s.toList==[105,110])=false) (h45:(s.toList==[117,110,105,113,117,101])=false) (h46:(s.toList==[119,104,101,114,101])=false) (h47:(s.toList==[99,111,112,121])=false) (h48:(s.toList==[101,120,112,97,110,100])=false) (h49:(s.toList==[99,117,116])=false) (h50:(s.toList==[101,110,99,111,100,101])=false) (h51:(s.toList==[100,101,99,111,100,101])=false) (h52:(s.toList==[98,111,120])=false) (h53:(s.toList==[111,112,101,110])=false) (h54:(s.toList==[115,97,109,101])=false) (h55:(s.toList==[107,105,110,100])=false) (h56:(s.toList==[111,114,100])=false) (h57:(s.toList==[99,104,114])=false) (h58:(s.toList==[102,111,114,109,97,116])=false) (h59:(s.toList==[108,101,102,116])=false) (h60:(s.toList==[114,105,103,104,116])=false) (h61:(s.toList==[47])=false) (h62:(s.toList==[92])=false) (h63:(s.toList==[101,97,99,104])=false) (h64:(s.toList==[115,119,97,112])=false) (h65:(s.toList==[111,117,116,101,114])=false) (h66:(s.toList==[105,110,110,101,114])=false) (h67:(s.toList==[97,116,111,112])=false) (h68:(s.toList==[111,118,101,114])=false) (h69:(s.toList==[114,97,110,107])=true):Calls Tryz.prog 42 #[.string s] w fun e w'=>e=.returned (.bool true)/\w=w':=by
 go_enter Tryz.func42,Tryz.ntmps42
 go_wp2
 go_ret
 exact ⟨rfl,rfl⟩
theorem res_70 (s:ByteArray) (w:World) (h0:(s.toList==[88])=false) (h1:(s.toList==[89])=false) (h2:(s.toList==[70])=false) (h3:(s.toList==[71])=false) (h4:(s.toList==[115,101,108,102])=false) (h5:(s.toList==[97,114,103])=false) (h6:(s.toList==[43])=false) (h7:(s.toList==[45])=false) (h8:(s.toList==[42])=false) (h9:(s.toList==[37])=false) (h10:(s.toList==[124])=false) (h11:(s.toList==[94])=false) (h12:(s.toList==[109,105,110])=false) (h13:(s.toList==[109,97,120])=false) (h14:(s.toList==[60])=false) (h15:(s.toList==[60,61])=false) (h16:(s.toList==[61])=false) (h17:(s.toList==[126,61])=false) (h18:(s.toList==[62,61])=false) (h19:(s.toList==[62])=false) (h20:(s.toList==[97,110,100])=false) (h21:(s.toList==[111,114])=false) (h22:(s.toList==[110,111,116])=false) (h23:(s.toList==[115,104,97,112,101])=false) (h24:(s.toList==[114,101,115,104,97,112,101])=false) (h25:(s.toList==[116,97,108,108,121])=false) (h26:(s.toList==[100,101,112,116,104])=false) (h27:(s.toList==[44])=false) (h28:(s.toList==[115,116,97,99,107])=false) (h29:(s.toList==[105,111,116,97])=false) (h30:(s.toList==[116,97,107,101])=false) (h31:(s.toList==[100,114,111,112])=false) (h32:(s.toList==[102,105,114,115,116])=false) (h33:(s.toList==[114,101,118,101,114,115,101])=false) (h34:(s.toList==[114,111,116,97,116,101])=false) (h35:(s.toList==[116,114,97,110,115,112,111,115,101])=false) (h36:(s.toList==[102,114,111,109])=false) (h37:(s.toList==[112,105,99,107])=false) (h38:(s.toList==[115,101,108,101,99,116])=false) (h39:(s.toList==[97,109,101,110,100])=false) (h40:(s.toList==[117,112])=false) (h41:(s.toList==[100,111,119,110])=false) (h42:(s.toList==[115,111,114,116])=false) (h43:(s.toList==[102,105,110,100])=false) (h44:(s.toList==[105,110])=false) (h45:(s.toList==[117,110,105,113,117,101])=false) (h46:(s.toList==[119,104,101,114,101])=false) (h47:(s.toList==[99,111,112,121])=false) (h48:(s.toList==[101,120,112,97,110,100])=false) (h49:(s.toList==[99,117,116])=false) (h50:(s.toList==[101,110,99,111,100,101])=false) (h51:(s.toList==[100,101,99,111,100,101])=false) (h52:(s.toList==[98,111,120])=false) (h53:(s.toList==[111,112,101,110])=false) (h54:(s.toList==[115,97,109,101])=false) (h55:(s.toList==[107,105,110,100])=false) (h56:(s.toList==[111,114,100])=false) (h57:(s.toList==[99,104,114])=false) (h58:(s.toList==[102,111,114,109,97,116])=false) (h59:(s.toList==[108,101,102,116])=false) (h60:(s.toList==[114,105,103,104,116])=false) (h61:(s.toList==[47])=false) (h62:(s.toList==[92])=false) (h63:(s.toList==[101,97,99,104])=false) (h64:(s.toList==[115,119,97,112])=false) (h65:(s.toList==[111,117,116,101,114])=false) (h66:(s.toList==[105,110,110,101,114])=false) (h67:(s.toList==[97,116,111,112])=false) (h68:(s.toList==[111,118,101,114])=false) (h69:(s.toList==[114,97,110,107])=false) (h70:(s.toList==[112,111,119,101,114])=true):Calls Tryz.prog 42 #[.string s] w fun e w'=>e=.returned (.bool true)/\w=w':=by
 go_enter Tryz.func42,Tryz.ntmps42
 go_wp2
 go_ret
 exact ⟨rfl,rfl⟩
theorem res_71 (s:ByteArray) (w:World) (h0:(s.toList==[88])=false) (h1:(s.toList==[89])=false) (h2:(s.toList==[70])=false) (h3:(s.toList==[71])=false) (h4:(s.toList==[115,101,108,102])=false) (h5:(s.toList==[97,114,103])=false) (h6:(s.toList==[43])=false) (h7:(s.toList==[45])=false) (h8:(s.toList==[42])=false) (h9:(s.toList==[37])=false) (h10:(s.toList==[124])=false) (h11:(s.toList==[94])=false) (h12:(s.toList==[109,105,110])=false) (h13:(s.toList==[109,97,120])=false) (h14:(s.toList==[60])=false) (h15:(s.toList==[60,61])=false) (h16:(s.toList==[61])=false) (h17:(s.toList==[126,61])=false) (h18:(s.toList==[62,61])=false) (h19:(s.toList==[62])=false) (h20:(s.toList==[97,110,100])=false) (h21:(s.toList==[111,114])=false) (h22:(s.toList==[110,111,116])=false) (h23:(s.toList==[115,104,97,112,101])=false) (h24:(s.toList==[114,101,115,104,97,112,101])=false) (h25:(s.toList==[116,97,108,108,121])=false) (h26:(s.toList==[100,101,112,116,104])=false) (h27:(s.toList==[44])=false) (h28:(s.toList==[115,116,97,99,107])=false) (h29:(s.toList==[105,111,116,97])=false) (h30:(s.toList==[116,97,107,101])=false) (h31:(s.toList==[100,114,111,112])=false) (h32:(s.toList==[102,105,114,115,116])=false) (h33:(s.toList==[114,101,118,101,114,115,101])=false) (h34:(s.toList==[114,111,116,97,116,101])=false) (h35:(s.toList==[116,114,97,110,115,112,111,115,101])=false) (h36:(s.toList==[102,114,111,109])=false) (h37:(s.toList==[112,105,99,107])=false) (h38:(s.toList==[115,101,108,101,99,116])=false) (h39:(s.toList==[97,109,101,110,100])=false) (h40:(s.toList==[117,112])=false) (h41:(s.toList==[100,111,119,110])=false) (h42:(s.toList==[115,111,114,116])=false) (h43:(s.toList==[102,105,110,100])=false) (h44:(s.toList==[105,110])=false) (h45:(s.toList==[117,110,105,113,117,101])=false) (h46:(s.toList==[119,104,101,114,101])=false) (h47:(s.toList==[99,111,112,121])=false) (h48:(s.toList==[101,120,112,97,110,100])=false) (h49:(s.toList==[99,117,116])=false) (h50:(s.toList==[101,110,99,111,100,101])=false) (h51:(s.toList==[100,101,99,111,100,101])=false) (h52:(s.toList==[98,111,120])=false) (h53:(s.toList==[111,112,101,110])=false) (h54:(s.toList==[115,97,109,101])=false) (h55:(s.toList==[107,105,110,100])=false) (h56:(s.toList==[111,114,100])=false) (h57:(s.toList==[99,104,114])=false) (h58:(s.toList==[102,111,114,109,97,116])=false) (h59:(s.toList==[108,101,102,116])=false) (h60:(s.toList==[114,105,103,104,116])=false) (h61:(s.toList==[47])=false) (h62:(s.toList==[92])=false) (h63:(s.toList==[101,97,99,104])=false) (h64:(s.toList==[115,119,97,112])=false) (h65:(s.toList==[111,117,116,101,114])=false) (h66:(s.toList==[105,110,110,101,114])=false) (h67:(s.toList==[97,116,111,112])=false) (h68:(s.toList==[111,118,101,114])=false) (h69:(s.toList==[114,97,110,107])=false) (h70:(s.toList==[112,111,119,101,114])=false) (h71:(s.toList==[115,116,101,110,99,105,108])=true):Calls Tryz.prog 42 #[.string s] w fun e w'=>e=.returned (.bool true)/\w=w':=by
 go_enter Tryz.func42,Tryz.ntmps42
 go_wp2
 go_ret
 exact ⟨rfl,rfl⟩
theorem res_72 (s:ByteArray) (w:World) (h0:(s.toList==[88])=false) (h1:(s.toList==[89])=false) (h2:(s.toList==[70])=false) (h3:(s.toList==[71])=false) (h4:(s.toList==[115,101,108,102])=false) (h5:(s.toList==[97,114,103])=false) (h6:(s.toList==[43])=false) (h7:(s.toList==[45])=false) (h8:(s.toList==[42])=false) (h9:(s.toList==[37])=false) (h10:(s.toList==[124])=false) (h11:(s.toList==[94])=false) (h12:(s.toList==[109,105,110])=false) (h13:(s.toList==[109,97,120])=false) (h14:(s.toList==[60])=false) (h15:(s.toList==[60,61])=false) (h16:(s.toList==[61])=false) (h17:(s.toList==[126,61])=false) (h18:(s.toList==[62,61])=false) (h19:(s.toList==[62])=false) (h20:(s.toList==[97,110,100])=false) (h21:(s.toList==[111,114])=false) (h22:(s.toList==[110,111,116])=false) (h23:(s.toList==[115,104,97,112,101])=false) (h24:(s.toList==[114,101,115,104,97,112,101])=false) (h25:(s.toList==[116,97,108,108,121])=false) (h26:(s.toList==[100,101,112,116,104])=false) (h27:(s.toList==[44])=false) (h28:(s.toList==[115,116,97,99,107])=false) (h29:(s.toList==[105,111,116,97])=false) (h30:(s.toList==[116,97,107,101])=false) (h31:(s.toList==[100,114,111,112])=false) (h32:(s.toList==[102,105,114,115,116])=false) (h33:(s.toList==[114,101,118,101,114,115,101])=false) (h34:(s.toList==[114,111,116,97,116,101])=false) (h35:(s.toList==[116,114,97,110,115,112,111,115,101])=false) (h36:(s.toList==[102,114,111,109])=false) (h37:(s.toList==[112,105,99,107])=false) (h38:(s.toList==[115,101,108,101,99,116])=false) (h39:(s.toList==[97,109,101,110,100])=false) (h40:(s.toList==[117,112])=false) (h41:(s.toList==[100,111,119,110])=false) (h42:(s.toList==[115,111,114,116])=false) (h43:(s.toList==[102,105,110,100])=false) (h44:(s.toList==[105,110])=false) (h45:(s.toList==[117,110,105,113,117,101])=false) (h46:(s.toList==[119,104,101,114,101])=false) (h47:(s.toList==[99,111,112,121])=false) (h48:(s.toList==[101,120,112,97,110,100])=false) (h49:(s.toList==[99,117,116])=false) (h50:(s.toList==[101,110,99,111,100,101])=false) (h51:(s.toList==[100,101,99,111,100,101])=false) (h52:(s.toList==[98,111,120])=false) (h53:(s.toList==[111,112,101,110])=false) (h54:(s.toList==[115,97,109,101])=false) (h55:(s.toList==[107,105,110,100])=false) (h56:(s.toList==[111,114,100])=false) (h57:(s.toList==[99,104,114])=false) (h58:(s.toList==[102,111,114,109,97,116])=false) (h59:(s.toList==[108,101,102,116])=false) (h60:(s.toList==[114,105,103,104,116])=false) (h61:(s.toList==[47])=false) (h62:(s.toList==[92])=false) (h63:(s.toList==[101,97,99,104])=false) (h64:(s.toList==[115,119,97,112])=false) (h65:(s.toList==[111,117,116,101,114])=false) (h66:(s.toList==[105,110,110,101,114])=false) (h67:(s.toList==[97,116,111,112])=false) (h68:(s.toList==[111,118,101,114])=false) (h69:(s.toList==[114,97,110,107])=false) (h70:(s.toList==[112,111,119,101,114])=false) (h71:(s.toList==[115,116,101,110,99,105,108])=false):Calls Tryz.prog 42 #[.string s] w fun e w'=>e=.returned (.bool false)/\w=w':=by
 go_enter Tryz.func42,Tryz.ntmps42
 go_wp2
 go_ret
 exact ⟨rfl,rfl⟩
theorem reservedQ (s:ByteArray) (w:World):Calls Tryz.prog 42 #[.string s] w fun e w'=>e=.returned (.bool (resB s.toList))/\w=w':=by
 by_cases h0:(s.toList==[88])=true
 ·rw [resB_yes (c:=[88]) (by decide) h0]
  exact res_0 s w h0
 replace h0:=Bool.eq_false_iff.2 h0
 by_cases h1:(s.toList==[89])=true
 ·rw [resB_yes (c:=[89]) (by decide) h1]
  exact res_1 s w h0 h1
 replace h1:=Bool.eq_false_iff.2 h1
 by_cases h2:(s.toList==[70])=true
 ·rw [resB_yes (c:=[70]) (by decide) h2]
  exact res_2 s w h0 h1 h2
 replace h2:=Bool.eq_false_iff.2 h2
 by_cases h3:(s.toList==[71])=true
 ·rw [resB_yes (c:=[71]) (by decide) h3]
  exact res_3 s w h0 h1 h2 h3
 replace h3:=Bool.eq_false_iff.2 h3
 by_cases h4:(s.toList==[115,101,108,102])=true
 ·rw [resB_yes (c:=[115,101,108,102]) (by decide) h4]
  exact res_4 s w h0 h1 h2 h3 h4
 replace h4:=Bool.eq_false_iff.2 h4
 by_cases h5:(s.toList==[97,114,103])=true
 ·rw [resB_yes (c:=[97,114,103]) (by decide) h5]
  exact res_5 s w h0 h1 h2 h3 h4 h5
 replace h5:=Bool.eq_false_iff.2 h5
 by_cases h6:(s.toList==[43])=true
 ·rw [resB_yes (c:=[43]) (by decide) h6]
  exact res_6 s w h0 h1 h2 h3 h4 h5 h6
 replace h6:=Bool.eq_false_iff.2 h6
 by_cases h7:(s.toList==[45])=true
 ·rw [resB_yes (c:=[45]) (by decide) h7]
  exact res_7 s w h0 h1 h2 h3 h4 h5 h6 h7
 replace h7:=Bool.eq_false_iff.2 h7
 by_cases h8:(s.toList==[42])=true
 ·rw [resB_yes (c:=[42]) (by decide) h8]
  exact res_8 s w h0 h1 h2 h3 h4 h5 h6 h7 h8
 replace h8:=Bool.eq_false_iff.2 h8
 by_cases h9:(s.toList==[37])=true
 ·rw [resB_yes (c:=[37]) (by decide) h9]
  exact res_9 s w h0 h1 h2 h3 h4 h5 h6 h7 h8 h9
 replace h9:=Bool.eq_false_iff.2 h9
 by_cases h10:(s.toList==[124])=true
 ·rw [resB_yes (c:=[124]) (by decide) h10]
  exact res_10 s w h0 h1 h2 h3 h4 h5 h6 h7 h8 h9 h10
 replace h10:=Bool.eq_false_iff.2 h10
 by_cases h11:(s.toList==[94])=true
 ·rw [resB_yes (c:=[94]) (by decide) h11]
  exact res_11 s w h0 h1 h2 h3 h4 h5 h6 h7 h8 h9 h10 h11
 replace h11:=Bool.eq_false_iff.2 h11
 by_cases h12:(s.toList==[109,105,110])=true
 ·rw [resB_yes (c:=[109,105,110]) (by decide) h12]
  exact res_12 s w h0 h1 h2 h3 h4 h5 h6 h7 h8 h9 h10 h11 h12
 replace h12:=Bool.eq_false_iff.2 h12
 by_cases h13:(s.toList==[109,97,120])=true
 ·rw [resB_yes (c:=[109,97,120]) (by decide) h13]
  exact res_13 s w h0 h1 h2 h3 h4 h5 h6 h7 h8 h9 h10 h11 h12 h13
 replace h13:=Bool.eq_false_iff.2 h13
 by_cases h14:(s.toList==[60])=true
 ·rw [resB_yes (c:=[60]) (by decide) h14]
  exact res_14 s w h0 h1 h2 h3 h4 h5 h6 h7 h8 h9 h10 h11 h12 h13 h14
 replace h14:=Bool.eq_false_iff.2 h14
 by_cases h15:(s.toList==[60,61])=true
 ·rw [resB_yes (c:=[60,61]) (by decide) h15]
  exact res_15 s w h0 h1 h2 h3 h4 h5 h6 h7 h8 h9 h10 h11 h12 h13 h14 h15
 replace h15:=Bool.eq_false_iff.2 h15
 by_cases h16:(s.toList==[61])=true
 ·rw [resB_yes (c:=[61]) (by decide) h16]
  exact res_16 s w h0 h1 h2 h3 h4 h5 h6 h7 h8 h9 h10 h11 h12 h13 h14 h15 h16
 replace h16:=Bool.eq_false_iff.2 h16
 by_cases h17:(s.toList==[126,61])=true
 ·rw [resB_yes (c:=[126,61]) (by decide) h17]
  exact res_17 s w h0 h1 h2 h3 h4 h5 h6 h7 h8 h9 h10 h11 h12 h13 h14 h15 h16 h17
 replace h17:=Bool.eq_false_iff.2 h17
 by_cases h18:(s.toList==[62,61])=true
 ·rw [resB_yes (c:=[62,61]) (by decide) h18]
  exact res_18 s w h0 h1 h2 h3 h4 h5 h6 h7 h8 h9 h10 h11 h12 h13 h14 h15 h16 h17 h18
 replace h18:=Bool.eq_false_iff.2 h18
 by_cases h19:(s.toList==[62])=true
 ·rw [resB_yes (c:=[62]) (by decide) h19]
  exact res_19 s w h0 h1 h2 h3 h4 h5 h6 h7 h8 h9 h10 h11 h12 h13 h14 h15 h16 h17 h18 h19
 replace h19:=Bool.eq_false_iff.2 h19
 by_cases h20:(s.toList==[97,110,100])=true
 ·rw [resB_yes (c:=[97,110,100]) (by decide) h20]
  exact res_20 s w h0 h1 h2 h3 h4 h5 h6 h7 h8 h9 h10 h11 h12 h13 h14 h15 h16 h17 h18 h19 h20
 replace h20:=Bool.eq_false_iff.2 h20
 by_cases h21:(s.toList==[111,114])=true
 ·rw [resB_yes (c:=[111,114]) (by decide) h21]
  exact res_21 s w h0 h1 h2 h3 h4 h5 h6 h7 h8 h9 h10 h11 h12 h13 h14 h15 h16 h17 h18 h19 h20 h21
 replace h21:=Bool.eq_false_iff.2 h21
 by_cases h22:(s.toList==[110,111,116])=true
 ·rw [resB_yes (c:=[110,111,116]) (by decide) h22]
  exact res_22 s w h0 h1 h2 h3 h4 h5 h6 h7 h8 h9 h10 h11 h12 h13 h14 h15 h16 h17 h18 h19 h20 h21 h22
 replace h22:=Bool.eq_false_iff.2 h22
 by_cases h23:(s.toList==[115,104,97,112,101])=true
 ·rw [resB_yes (c:=[115,104,97,112,101]) (by decide) h23]
  exact res_23 s w h0 h1 h2 h3 h4 h5 h6 h7 h8 h9 h10 h11 h12 h13 h14 h15 h16 h17 h18 h19 h20 h21 h22 h23
 replace h23:=Bool.eq_false_iff.2 h23
 by_cases h24:(s.toList==[114,101,115,104,97,112,101])=true
 ·rw [resB_yes (c:=[114,101,115,104,97,112,101]) (by decide) h24]
  exact res_24 s w h0 h1 h2 h3 h4 h5 h6 h7 h8 h9 h10 h11 h12 h13 h14 h15 h16 h17 h18 h19 h20 h21 h22 h23 h24
 replace h24:=Bool.eq_false_iff.2 h24
 by_cases h25:(s.toList==[116,97,108,108,121])=true
 ·rw [resB_yes (c:=[116,97,108,108,121]) (by decide) h25]
  exact res_25 s w h0 h1 h2 h3 h4 h5 h6 h7 h8 h9 h10 h11 h12 h13 h14 h15 h16 h17 h18 h19 h20 h21 h22 h23 h24 h25
 replace h25:=Bool.eq_false_iff.2 h25
 by_cases h26:(s.toList==[100,101,112,116,104])=true
 ·rw [resB_yes (c:=[100,101,112,116,104]) (by decide) h26]
  exact res_26 s w h0 h1 h2 h3 h4 h5 h6 h7 h8 h9 h10 h11 h12 h13 h14 h15 h16 h17 h18 h19 h20 h21 h22 h23 h24 h25 h26
 replace h26:=Bool.eq_false_iff.2 h26
 by_cases h27:(s.toList==[44])=true
 ·rw [resB_yes (c:=[44]) (by decide) h27]
  exact res_27 s w h0 h1 h2 h3 h4 h5 h6 h7 h8 h9 h10 h11 h12 h13 h14 h15 h16 h17 h18 h19 h20 h21 h22 h23 h24 h25 h26 h27
 replace h27:=Bool.eq_false_iff.2 h27
 by_cases h28:(s.toList==[115,116,97,99,107])=true
 ·rw [resB_yes (c:=[115,116,97,99,107]) (by decide) h28]
  exact res_28 s w h0 h1 h2 h3 h4 h5 h6 h7 h8 h9 h10 h11 h12 h13 h14 h15 h16 h17 h18 h19 h20 h21 h22 h23 h24 h25 h26 h27 h28
 replace h28:=Bool.eq_false_iff.2 h28
 by_cases h29:(s.toList==[105,111,116,97])=true
 ·rw [resB_yes (c:=[105,111,116,97]) (by decide) h29]
  exact res_29 s w h0 h1 h2 h3 h4 h5 h6 h7 h8 h9 h10 h11 h12 h13 h14 h15 h16 h17 h18 h19 h20 h21 h22 h23 h24 h25 h26 h27 h28 h29
 replace h29:=Bool.eq_false_iff.2 h29
 by_cases h30:(s.toList==[116,97,107,101])=true
 ·rw [resB_yes (c:=[116,97,107,101]) (by decide) h30]
  exact res_30 s w h0 h1 h2 h3 h4 h5 h6 h7 h8 h9 h10 h11 h12 h13 h14 h15 h16 h17 h18 h19 h20 h21 h22 h23 h24 h25 h26 h27 h28 h29 h30
 replace h30:=Bool.eq_false_iff.2 h30
 by_cases h31:(s.toList==[100,114,111,112])=true
 ·rw [resB_yes (c:=[100,114,111,112]) (by decide) h31]
  exact res_31 s w h0 h1 h2 h3 h4 h5 h6 h7 h8 h9 h10 h11 h12 h13 h14 h15 h16 h17 h18 h19 h20 h21 h22 h23 h24 h25 h26 h27 h28 h29 h30 h31
 replace h31:=Bool.eq_false_iff.2 h31
 by_cases h32:(s.toList==[102,105,114,115,116])=true
 ·rw [resB_yes (c:=[102,105,114,115,116]) (by decide) h32]
  exact res_32 s w h0 h1 h2 h3 h4 h5 h6 h7 h8 h9 h10 h11 h12 h13 h14 h15 h16 h17 h18 h19 h20 h21 h22 h23 h24 h25 h26 h27 h28 h29 h30 h31 h32
 replace h32:=Bool.eq_false_iff.2 h32
 by_cases h33:(s.toList==[114,101,118,101,114,115,101])=true
 ·rw [resB_yes (c:=[114,101,118,101,114,115,101]) (by decide) h33]
  exact res_33 s w h0 h1 h2 h3 h4 h5 h6 h7 h8 h9 h10 h11 h12 h13 h14 h15 h16 h17 h18 h19 h20 h21 h22 h23 h24 h25 h26 h27 h28 h29 h30 h31 h32 h33
 replace h33:=Bool.eq_false_iff.2 h33
 by_cases h34:(s.toList==[114,111,116,97,116,101])=true
 ·rw [resB_yes (c:=[114,111,116,97,116,101]) (by decide) h34]
  exact res_34 s w h0 h1 h2 h3 h4 h5 h6 h7 h8 h9 h10 h11 h12 h13 h14 h15 h16 h17 h18 h19 h20 h21 h22 h23 h24 h25 h26 h27 h28 h29 h30 h31 h32 h33 h34
 replace h34:=Bool.eq_false_iff.2 h34
 by_cases h35:(s.toList==[116,114,97,110,115,112,111,115,101])=true
 ·rw [resB_yes (c:=[116,114,97,110,115,112,111,115,101]) (by decide) h35]
  exact res_35 s w h0 h1 h2 h3 h4 h5 h6 h7 h8 h9 h10 h11 h12 h13 h14 h15 h16 h17 h18 h19 h20 h21 h22 h23 h24 h25 h26 h27 h28 h29 h30 h31 h32 h33 h34 h35
 replace h35:=Bool.eq_false_iff.2 h35
 by_cases h36:(s.toList==[102,114,111,109])=true
 ·rw [resB_yes (c:=[102,114,111,109]) (by decide) h36]
  exact res_36 s w h0 h1 h2 h3 h4 h5 h6 h7 h8 h9 h10 h11 h12 h13 h14 h15 h16 h17 h18 h19 h20 h21 h22 h23 h24 h25 h26 h27 h28 h29 h30 h31 h32 h33 h34 h35 h36
 replace h36:=Bool.eq_false_iff.2 h36
 by_cases h37:(s.toList==[112,105,99,107])=true
 ·rw [resB_yes (c:=[112,105,99,107]) (by decide) h37]
  exact res_37 s w h0 h1 h2 h3 h4 h5 h6 h7 h8 h9 h10 h11 h12 h13 h14 h15 h16 h17 h18 h19 h20 h21 h22 h23 h24 h25 h26 h27 h28 h29 h30 h31 h32 h33 h34 h35 h36 h37
 replace h37:=Bool.eq_false_iff.2 h37
 by_cases h38:(s.toList==[115,101,108,101,99,116])=true
 ·rw [resB_yes (c:=[115,101,108,101,99,116]) (by decide) h38]
  exact res_38 s w h0 h1 h2 h3 h4 h5 h6 h7 h8 h9 h10 h11 h12 h13 h14 h15 h16 h17 h18 h19 h20 h21 h22 h23 h24 h25 h26 h27 h28 h29 h30 h31 h32 h33 h34 h35 h36 h37 h38
 replace h38:=Bool.eq_false_iff.2 h38
 by_cases h39:(s.toList==[97,109,101,110,100])=true
 ·rw [resB_yes (c:=[97,109,101,110,100]) (by decide) h39]
  exact res_39 s w h0 h1 h2 h3 h4 h5 h6 h7 h8 h9 h10 h11 h12 h13 h14 h15 h16 h17 h18 h19 h20 h21 h22 h23 h24 h25 h26 h27 h28 h29 h30 h31 h32 h33 h34 h35 h36 h37 h38 h39
 replace h39:=Bool.eq_false_iff.2 h39
 by_cases h40:(s.toList==[117,112])=true
 ·rw [resB_yes (c:=[117,112]) (by decide) h40]
  exact res_40 s w h0 h1 h2 h3 h4 h5 h6 h7 h8 h9 h10 h11 h12 h13 h14 h15 h16 h17 h18 h19 h20 h21 h22 h23 h24 h25 h26 h27 h28 h29 h30 h31 h32 h33 h34 h35 h36 h37 h38 h39 h40
 replace h40:=Bool.eq_false_iff.2 h40
 by_cases h41:(s.toList==[100,111,119,110])=true
 ·rw [resB_yes (c:=[100,111,119,110]) (by decide) h41]
  exact res_41 s w h0 h1 h2 h3 h4 h5 h6 h7 h8 h9 h10 h11 h12 h13 h14 h15 h16 h17 h18 h19 h20 h21 h22 h23 h24 h25 h26 h27 h28 h29 h30 h31 h32 h33 h34 h35 h36 h37 h38 h39 h40 h41
 replace h41:=Bool.eq_false_iff.2 h41
 by_cases h42:(s.toList==[115,111,114,116])=true
 ·rw [resB_yes (c:=[115,111,114,116]) (by decide) h42]
  exact res_42 s w h0 h1 h2 h3 h4 h5 h6 h7 h8 h9 h10 h11 h12 h13 h14 h15 h16 h17 h18 h19 h20 h21 h22 h23 h24 h25 h26 h27 h28 h29 h30 h31 h32 h33 h34 h35 h36 h37 h38 h39 h40 h41 h42
 replace h42:=Bool.eq_false_iff.2 h42
 by_cases h43:(s.toList==[102,105,110,100])=true
 ·rw [resB_yes (c:=[102,105,110,100]) (by decide) h43]
  exact res_43 s w h0 h1 h2 h3 h4 h5 h6 h7 h8 h9 h10 h11 h12 h13 h14 h15 h16 h17 h18 h19 h20 h21 h22 h23 h24 h25 h26 h27 h28 h29 h30 h31 h32 h33 h34 h35 h36 h37 h38 h39 h40 h41 h42 h43
 replace h43:=Bool.eq_false_iff.2 h43
 by_cases h44:(s.toList==[105,110])=true
 ·rw [resB_yes (c:=[105,110]) (by decide) h44]
  exact res_44 s w h0 h1 h2 h3 h4 h5 h6 h7 h8 h9 h10 h11 h12 h13 h14 h15 h16 h17 h18 h19 h20 h21 h22 h23 h24 h25 h26 h27 h28 h29 h30 h31 h32 h33 h34 h35 h36 h37 h38 h39 h40 h41 h42 h43 h44
 replace h44:=Bool.eq_false_iff.2 h44
 by_cases h45:(s.toList==[117,110,105,113,117,101])=true
 ·rw [resB_yes (c:=[117,110,105,113,117,101]) (by decide) h45]
  exact res_45 s w h0 h1 h2 h3 h4 h5 h6 h7 h8 h9 h10 h11 h12 h13 h14 h15 h16 h17 h18 h19 h20 h21 h22 h23 h24 h25 h26 h27 h28 h29 h30 h31 h32 h33 h34 h35 h36 h37 h38 h39 h40 h41 h42 h43 h44 h45
 replace h45:=Bool.eq_false_iff.2 h45
 by_cases h46:(s.toList==[119,104,101,114,101])=true
 ·rw [resB_yes (c:=[119,104,101,114,101]) (by decide) h46]
  exact res_46 s w h0 h1 h2 h3 h4 h5 h6 h7 h8 h9 h10 h11 h12 h13 h14 h15 h16 h17 h18 h19 h20 h21 h22 h23 h24 h25 h26 h27 h28 h29 h30 h31 h32 h33 h34 h35 h36 h37 h38 h39 h40 h41 h42 h43 h44 h45 h46
 replace h46:=Bool.eq_false_iff.2 h46
 by_cases h47:(s.toList==[99,111,112,121])=true
 ·rw [resB_yes (c:=[99,111,112,121]) (by decide) h47]
  exact res_47 s w h0 h1 h2 h3 h4 h5 h6 h7 h8 h9 h10 h11 h12 h13 h14 h15 h16 h17 h18 h19 h20 h21 h22 h23 h24 h25 h26 h27 h28 h29 h30 h31 h32 h33 h34 h35 h36 h37 h38 h39 h40 h41 h42 h43 h44 h45 h46 h47
 replace h47:=Bool.eq_false_iff.2 h47
 by_cases h48:(s.toList==[101,120,112,97,110,100])=true
 ·rw [resB_yes (c:=[101,120,112,97,110,100]) (by decide) h48]
  exact res_48 s w h0 h1 h2 h3 h4 h5 h6 h7 h8 h9 h10 h11 h12 h13 h14 h15 h16 h17 h18 h19 h20 h21 h22 h23 h24 h25 h26 h27 h28 h29 h30 h31 h32 h33 h34 h35 h36 h37 h38 h39 h40 h41 h42 h43 h44 h45 h46 h47 h48
 replace h48:=Bool.eq_false_iff.2 h48
 by_cases h49:(s.toList==[99,117,116])=true
 ·rw [resB_yes (c:=[99,117,116]) (by decide) h49]
  exact res_49 s w h0 h1 h2 h3 h4 h5 h6 h7 h8 h9 h10 h11 h12 h13 h14 h15 h16 h17 h18 h19 h20 h21 h22 h23 h24 h25 h26 h27 h28 h29 h30 h31 h32 h33 h34 h35 h36 h37 h38 h39 h40 h41 h42 h43 h44 h45 h46 h47 h48 h49
 replace h49:=Bool.eq_false_iff.2 h49
 by_cases h50:(s.toList==[101,110,99,111,100,101])=true
 ·rw [resB_yes (c:=[101,110,99,111,100,101]) (by decide) h50]
  exact res_50 s w h0 h1 h2 h3 h4 h5 h6 h7 h8 h9 h10 h11 h12 h13 h14 h15 h16 h17 h18 h19 h20 h21 h22 h23 h24 h25 h26 h27 h28 h29 h30 h31 h32 h33 h34 h35 h36 h37 h38 h39 h40 h41 h42 h43 h44 h45 h46 h47 h48 h49 h50
 replace h50:=Bool.eq_false_iff.2 h50
 by_cases h51:(s.toList==[100,101,99,111,100,101])=true
 ·rw [resB_yes (c:=[100,101,99,111,100,101]) (by decide) h51]
  exact res_51 s w h0 h1 h2 h3 h4 h5 h6 h7 h8 h9 h10 h11 h12 h13 h14 h15 h16 h17 h18 h19 h20 h21 h22 h23 h24 h25 h26 h27 h28 h29 h30 h31 h32 h33 h34 h35 h36 h37 h38 h39 h40 h41 h42 h43 h44 h45 h46 h47 h48 h49 h50 h51
 replace h51:=Bool.eq_false_iff.2 h51
 by_cases h52:(s.toList==[98,111,120])=true
 ·rw [resB_yes (c:=[98,111,120]) (by decide) h52]
  exact res_52 s w h0 h1 h2 h3 h4 h5 h6 h7 h8 h9 h10 h11 h12 h13 h14 h15 h16 h17 h18 h19 h20 h21 h22 h23 h24 h25 h26 h27 h28 h29 h30 h31 h32 h33 h34 h35 h36 h37 h38 h39 h40 h41 h42 h43 h44 h45 h46 h47 h48 h49 h50 h51 h52
 replace h52:=Bool.eq_false_iff.2 h52
 by_cases h53:(s.toList==[111,112,101,110])=true
 ·rw [resB_yes (c:=[111,112,101,110]) (by decide) h53]
  exact res_53 s w h0 h1 h2 h3 h4 h5 h6 h7 h8 h9 h10 h11 h12 h13 h14 h15 h16 h17 h18 h19 h20 h21 h22 h23 h24 h25 h26 h27 h28 h29 h30 h31 h32 h33 h34 h35 h36 h37 h38 h39 h40 h41 h42 h43 h44 h45 h46 h47 h48 h49 h50 h51 h52 h53
 replace h53:=Bool.eq_false_iff.2 h53
 by_cases h54:(s.toList==[115,97,109,101])=true
 ·rw [resB_yes (c:=[115,97,109,101]) (by decide) h54]
  exact res_54 s w h0 h1 h2 h3 h4 h5 h6 h7 h8 h9 h10 h11 h12 h13 h14 h15 h16 h17 h18 h19 h20 h21 h22 h23 h24 h25 h26 h27 h28 h29 h30 h31 h32 h33 h34 h35 h36 h37 h38 h39 h40 h41 h42 h43 h44 h45 h46 h47 h48 h49 h50 h51 h52 h53 h54
 replace h54:=Bool.eq_false_iff.2 h54
 by_cases h55:(s.toList==[107,105,110,100])=true
 ·rw [resB_yes (c:=[107,105,110,100]) (by decide) h55]
  exact res_55 s w h0 h1 h2 h3 h4 h5 h6 h7 h8 h9 h10 h11 h12 h13 h14 h15 h16 h17 h18 h19 h20 h21 h22 h23 h24 h25 h26 h27 h28 h29 h30 h31 h32 h33 h34 h35 h36 h37 h38 h39 h40 h41 h42 h43 h44 h45 h46 h47 h48 h49 h50 h51 h52 h53 h54 h55
 replace h55:=Bool.eq_false_iff.2 h55
 by_cases h56:(s.toList==[111,114,100])=true
 ·rw [resB_yes (c:=[111,114,100]) (by decide) h56]
  exact res_56 s w h0 h1 h2 h3 h4 h5 h6 h7 h8 h9 h10 h11 h12 h13 h14 h15 h16 h17 h18 h19 h20 h21 h22 h23 h24 h25 h26 h27 h28 h29 h30 h31 h32 h33 h34 h35 h36 h37 h38 h39 h40 h41 h42 h43 h44 h45 h46 h47 h48 h49 h50 h51 h52 h53 h54 h55 h56
 replace h56:=Bool.eq_false_iff.2 h56
 by_cases h57:(s.toList==[99,104,114])=true
 ·rw [resB_yes (c:=[99,104,114]) (by decide) h57]
  exact res_57 s w h0 h1 h2 h3 h4 h5 h6 h7 h8 h9 h10 h11 h12 h13 h14 h15 h16 h17 h18 h19 h20 h21 h22 h23 h24 h25 h26 h27 h28 h29 h30 h31 h32 h33 h34 h35 h36 h37 h38 h39 h40 h41 h42 h43 h44 h45 h46 h47 h48 h49 h50 h51 h52 h53 h54 h55 h56 h57
 replace h57:=Bool.eq_false_iff.2 h57
 by_cases h58:(s.toList==[102,111,114,109,97,116])=true
 ·rw [resB_yes (c:=[102,111,114,109,97,116]) (by decide) h58]
  exact res_58 s w h0 h1 h2 h3 h4 h5 h6 h7 h8 h9 h10 h11 h12 h13 h14 h15 h16 h17 h18 h19 h20 h21 h22 h23 h24 h25 h26 h27 h28 h29 h30 h31 h32 h33 h34 h35 h36 h37 h38 h39 h40 h41 h42 h43 h44 h45 h46 h47 h48 h49 h50 h51 h52 h53 h54 h55 h56 h57 h58
 replace h58:=Bool.eq_false_iff.2 h58
 by_cases h59:(s.toList==[108,101,102,116])=true
 ·rw [resB_yes (c:=[108,101,102,116]) (by decide) h59]
  exact res_59 s w h0 h1 h2 h3 h4 h5 h6 h7 h8 h9 h10 h11 h12 h13 h14 h15 h16 h17 h18 h19 h20 h21 h22 h23 h24 h25 h26 h27 h28 h29 h30 h31 h32 h33 h34 h35 h36 h37 h38 h39 h40 h41 h42 h43 h44 h45 h46 h47 h48 h49 h50 h51 h52 h53 h54 h55 h56 h57 h58 h59
 replace h59:=Bool.eq_false_iff.2 h59
 by_cases h60:(s.toList==[114,105,103,104,116])=true
 ·rw [resB_yes (c:=[114,105,103,104,116]) (by decide) h60]
  exact res_60 s w h0 h1 h2 h3 h4 h5 h6 h7 h8 h9 h10 h11 h12 h13 h14 h15 h16 h17 h18 h19 h20 h21 h22 h23 h24 h25 h26 h27 h28 h29 h30 h31 h32 h33 h34 h35 h36 h37 h38 h39 h40 h41 h42 h43 h44 h45 h46 h47 h48 h49 h50 h51 h52 h53 h54 h55 h56 h57 h58 h59 h60
 replace h60:=Bool.eq_false_iff.2 h60
 by_cases h61:(s.toList==[47])=true
 ·rw [resB_yes (c:=[47]) (by decide) h61]
  exact res_61 s w h0 h1 h2 h3 h4 h5 h6 h7 h8 h9 h10 h11 h12 h13 h14 h15 h16 h17 h18 h19 h20 h21 h22 h23 h24 h25 h26 h27 h28 h29 h30 h31 h32 h33 h34 h35 h36 h37 h38 h39 h40 h41 h42 h43 h44 h45 h46 h47 h48 h49 h50 h51 h52 h53 h54 h55 h56 h57 h58 h59 h60 h61
 replace h61:=Bool.eq_false_iff.2 h61
 by_cases h62:(s.toList==[92])=true
 ·rw [resB_yes (c:=[92]) (by decide) h62]
  exact res_62 s w h0 h1 h2 h3 h4 h5 h6 h7 h8 h9 h10 h11 h12 h13 h14 h15 h16 h17 h18 h19 h20 h21 h22 h23 h24 h25 h26 h27 h28 h29 h30 h31 h32 h33 h34 h35 h36 h37 h38 h39 h40 h41 h42 h43 h44 h45 h46 h47 h48 h49 h50 h51 h52 h53 h54 h55 h56 h57 h58 h59 h60 h61 h62
 replace h62:=Bool.eq_false_iff.2 h62
 by_cases h63:(s.toList==[101,97,99,104])=true
 ·rw [resB_yes (c:=[101,97,99,104]) (by decide) h63]
  exact res_63 s w h0 h1 h2 h3 h4 h5 h6 h7 h8 h9 h10 h11 h12 h13 h14 h15 h16 h17 h18 h19 h20 h21 h22 h23 h24 h25 h26 h27 h28 h29 h30 h31 h32 h33 h34 h35 h36 h37 h38 h39 h40 h41 h42 h43 h44 h45 h46 h47 h48 h49 h50 h51 h52 h53 h54 h55 h56 h57 h58 h59 h60 h61 h62 h63
 replace h63:=Bool.eq_false_iff.2 h63
 by_cases h64:(s.toList==[115,119,97,112])=true
 ·rw [resB_yes (c:=[115,119,97,112]) (by decide) h64]
  exact res_64 s w h0 h1 h2 h3 h4 h5 h6 h7 h8 h9 h10 h11 h12 h13 h14 h15 h16 h17 h18 h19 h20 h21 h22 h23 h24 h25 h26 h27 h28 h29 h30 h31 h32 h33 h34 h35 h36 h37 h38 h39 h40 h41 h42 h43 h44 h45 h46 h47 h48 h49 h50 h51 h52 h53 h54 h55 h56 h57 h58 h59 h60 h61 h62 h63 h64
 replace h64:=Bool.eq_false_iff.2 h64
 by_cases h65:(s.toList==[111,117,116,101,114])=true
 ·rw [resB_yes (c:=[111,117,116,101,114]) (by decide) h65]
  exact res_65 s w h0 h1 h2 h3 h4 h5 h6 h7 h8 h9 h10 h11 h12 h13 h14 h15 h16 h17 h18 h19 h20 h21 h22 h23 h24 h25 h26 h27 h28 h29 h30 h31 h32 h33 h34 h35 h36 h37 h38 h39 h40 h41 h42 h43 h44 h45 h46 h47 h48 h49 h50 h51 h52 h53 h54 h55 h56 h57 h58 h59 h60 h61 h62 h63 h64 h65
 replace h65:=Bool.eq_false_iff.2 h65
 by_cases h66:(s.toList==[105,110,110,101,114])=true
 ·rw [resB_yes (c:=[105,110,110,101,114]) (by decide) h66]
  exact res_66 s w h0 h1 h2 h3 h4 h5 h6 h7 h8 h9 h10 h11 h12 h13 h14 h15 h16 h17 h18 h19 h20 h21 h22 h23 h24 h25 h26 h27 h28 h29 h30 h31 h32 h33 h34 h35 h36 h37 h38 h39 h40 h41 h42 h43 h44 h45 h46 h47 h48 h49 h50 h51 h52 h53 h54 h55 h56 h57 h58 h59 h60 h61 h62 h63 h64 h65 h66
 replace h66:=Bool.eq_false_iff.2 h66
 by_cases h67:(s.toList==[97,116,111,112])=true
 ·rw [resB_yes (c:=[97,116,111,112]) (by decide) h67]
  exact res_67 s w h0 h1 h2 h3 h4 h5 h6 h7 h8 h9 h10 h11 h12 h13 h14 h15 h16 h17 h18 h19 h20 h21 h22 h23 h24 h25 h26 h27 h28 h29 h30 h31 h32 h33 h34 h35 h36 h37 h38 h39 h40 h41 h42 h43 h44 h45 h46 h47 h48 h49 h50 h51 h52 h53 h54 h55 h56 h57 h58 h59 h60 h61 h62 h63 h64 h65 h66 h67
 replace h67:=Bool.eq_false_iff.2 h67
 by_cases h68:(s.toList==[111,118,101,114])=true
 ·rw [resB_yes (c:=[111,118,101,114]) (by decide) h68]
  exact res_68 s w h0 h1 h2 h3 h4 h5 h6 h7 h8 h9 h10 h11 h12 h13 h14 h15 h16 h17 h18 h19 h20 h21 h22 h23 h24 h25 h26 h27 h28 h29 h30 h31 h32 h33 h34 h35 h36 h37 h38 h39 h40 h41 h42 h43 h44 h45 h46 h47 h48 h49 h50 h51 h52 h53 h54 h55 h56 h57 h58 h59 h60 h61 h62 h63 h64 h65 h66 h67 h68
 replace h68:=Bool.eq_false_iff.2 h68
 by_cases h69:(s.toList==[114,97,110,107])=true
 ·rw [resB_yes (c:=[114,97,110,107]) (by decide) h69]
  exact res_69 s w h0 h1 h2 h3 h4 h5 h6 h7 h8 h9 h10 h11 h12 h13 h14 h15 h16 h17 h18 h19 h20 h21 h22 h23 h24 h25 h26 h27 h28 h29 h30 h31 h32 h33 h34 h35 h36 h37 h38 h39 h40 h41 h42 h43 h44 h45 h46 h47 h48 h49 h50 h51 h52 h53 h54 h55 h56 h57 h58 h59 h60 h61 h62 h63 h64 h65 h66 h67 h68 h69
 replace h69:=Bool.eq_false_iff.2 h69
 by_cases h70:(s.toList==[112,111,119,101,114])=true
 ·rw [resB_yes (c:=[112,111,119,101,114]) (by decide) h70]
  exact res_70 s w h0 h1 h2 h3 h4 h5 h6 h7 h8 h9 h10 h11 h12 h13 h14 h15 h16 h17 h18 h19 h20 h21 h22 h23 h24 h25 h26 h27 h28 h29 h30 h31 h32 h33 h34 h35 h36 h37 h38 h39 h40 h41 h42 h43 h44 h45 h46 h47 h48 h49 h50 h51 h52 h53 h54 h55 h56 h57 h58 h59 h60 h61 h62 h63 h64 h65 h66 h67 h68 h69 h70
 replace h70:=Bool.eq_false_iff.2 h70
 by_cases h71:(s.toList==[115,116,101,110,99,105,108])=true
 ·rw [resB_yes (c:=[115,116,101,110,99,105,108]) (by decide) h71]
  exact res_71 s w h0 h1 h2 h3 h4 h5 h6 h7 h8 h9 h10 h11 h12 h13 h14 h15 h16 h17 h18 h19 h20 h21 h22 h23 h24 h25 h26 h27 h28 h29 h30 h31 h32 h33 h34 h35 h36 h37 h38 h39 h40 h41 h42 h43 h44 h45 h46 h47 h48 h49 h50 h51 h52 h53 h54 h55 h56 h57 h58 h59 h60 h61 h62 h63 h64 h65 h66 h67 h68 h69 h70 h71
 replace h71:=Bool.eq_false_iff.2 h71
 have e:resB s.toList=false:=by
  rw [resB,List.any_eq_false]
  intro c hc
  simp only [resWords,List.mem_cons,List.not_mem_nil,or_false] at hc
  rcases hc with rfl | rfl | rfl | rfl | rfl | rfl | rfl | rfl | rfl | rfl | rfl | rfl | rfl | rfl | rfl | rfl | rfl | rfl | rfl | rfl | rfl | rfl | rfl | rfl | rfl | rfl | rfl | rfl | rfl | rfl | rfl | rfl | rfl | rfl | rfl | rfl | rfl | rfl | rfl | rfl | rfl | rfl | rfl | rfl | rfl | rfl | rfl | rfl | rfl | rfl | rfl | rfl | rfl | rfl | rfl | rfl | rfl | rfl | rfl | rfl | rfl | rfl | rfl | rfl | rfl | rfl | rfl | rfl | rfl | rfl | rfl | rfl <;> simp only [h0,h1,h2,h3,h4,h5,h6,h7,h8,h9,h10,h11,h12,h13,h14,h15,h16,h17,h18,h19,h20,h21,h22,h23,h24,h25,h26,h27,h28,h29,h30,h31,h32,h33,h34,h35,h36,h37,h38,h39,h40,h41,h42,h43,h44,h45,h46,h47,h48,h49,h50,h51,h52,h53,h54,h55,h56,h57,h58,h59,h60,h61,h62,h63,h64,h65,h66,h67,h68,h69,h70,h71,Bool.false_eq_true,not_false_eq_true]
 rw [e]
 exact res_72 s w h0 h1 h2 h3 h4 h5 h6 h7 h8 h9 h10 h11 h12 h13 h14 h15 h16 h17 h18 h19 h20 h21 h22 h23 h24 h25 h26 h27 h28 h29 h30 h31 h32 h33 h34 h35 h36 h37 h38 h39 h40 h41 h42 h43 h44 h45 h46 h47 h48 h49 h50 h51 h52 h53 h54 h55 h56 h57 h58 h59 h60 h61 h62 h63 h64 h65 h66 h67 h68 h69 h70 h71
def signWords:List (List UInt8):=[[40],[41],[123],[125],[58],[60,45]]
def signB (l:List UInt8):Bool:=signWords.any fun c=>l==c
theorem signB_yes {l c:List UInt8}(hc:c∈signWords) (h:(l==c)=true):signB l=true:=List.any_eq_true.2 ⟨c,hc,h⟩
theorem sym_0 (s:ByteArray) (w:World)  (h0:(s.toList==[40])=true):Calls Tryz.prog 46 #[.string s] w fun e w'=>e=.returned (.bool true)/\w=w':=by
 go_enter Tryz.func46,Tryz.ntmps46
 go_wp2
 go_ret
 exact ⟨rfl,rfl⟩
theorem sym_1 (s:ByteArray) (w:World) (h0:(s.toList==[40])=false) (h1:(s.toList==[41])=true):Calls Tryz.prog 46 #[.string s] w fun e w'=>e=.returned (.bool true)/\w=w':=by
 go_enter Tryz.func46,Tryz.ntmps46
 go_wp2
 go_ret
 exact ⟨rfl,rfl⟩
theorem sym_2 (s:ByteArray) (w:World) (h0:(s.toList==[40])=false) (h1:(s.toList==[41])=false) (h2:(s.toList==[123])=true):Calls Tryz.prog 46 #[.string s] w fun e w'=>e=.returned (.bool true)/\w=w':=by
 go_enter Tryz.func46,Tryz.ntmps46
 go_wp2
 go_ret
 exact ⟨rfl,rfl⟩
theorem sym_3 (s:ByteArray) (w:World) (h0:(s.toList==[40])=false) (h1:(s.toList==[41])=false) (h2:(s.toList==[123])=false) (h3:(s.toList==[125])=true):Calls Tryz.prog 46 #[.string s] w fun e w'=>e=.returned (.bool true)/\w=w':=by
 go_enter Tryz.func46,Tryz.ntmps46
 go_wp2
 go_ret
 exact ⟨rfl,rfl⟩
theorem sym_4 (s:ByteArray) (w:World) (h0:(s.toList==[40])=false) (h1:(s.toList==[41])=false) (h2:(s.toList==[123])=false) (h3:(s.toList==[125])=false) (h4:(s.toList==[58])=true):Calls Tryz.prog 46 #[.string s] w fun e w'=>e=.returned (.bool true)/\w=w':=by
 go_enter Tryz.func46,Tryz.ntmps46
 go_wp2
 go_ret
 exact ⟨rfl,rfl⟩
theorem sym_5 (s:ByteArray) (w:World) (h0:(s.toList==[40])=false) (h1:(s.toList==[41])=false) (h2:(s.toList==[123])=false) (h3:(s.toList==[125])=false) (h4:(s.toList==[58])=false) (h5:(s.toList==[60,45])=true):Calls Tryz.prog 46 #[.string s] w fun e w'=>e=.returned (.bool true)/\w=w':=by
 go_enter Tryz.func46,Tryz.ntmps46
 go_wp2
 go_ret
 exact ⟨rfl,rfl⟩
theorem sym_6 (s:ByteArray) (w:World) (h0:(s.toList==[40])=false) (h1:(s.toList==[41])=false) (h2:(s.toList==[123])=false) (h3:(s.toList==[125])=false) (h4:(s.toList==[58])=false) (h5:(s.toList==[60,45])=false):Calls Tryz.prog 46 #[.string s] w fun e w'=>e=.returned (.bool (resB s.toList))/\w=w':=by
 go_enter Tryz.func46,Tryz.ntmps46
 go_wp2_with (go_at_call 42;with_reducible refine (reservedQ s w).mono ?_;rintro e w1 ⟨rfl,rfl⟩)
 go_ret
 exact ⟨rfl,rfl⟩
theorem isSymbolQ (s:ByteArray) (w:World):Calls Tryz.prog 46 #[.string s] w fun e w'=>e=.returned (.bool (signB s.toList || resB s.toList))/\w=w':=by
 by_cases h0:(s.toList==[40])=true
 ·rw [signB_yes (c:=[40]) (by decide) h0]
  exact sym_0 s w h0
 replace h0:=Bool.eq_false_iff.2 h0
 by_cases h1:(s.toList==[41])=true
 ·rw [signB_yes (c:=[41]) (by decide) h1]
  exact sym_1 s w h0 h1
 replace h1:=Bool.eq_false_iff.2 h1
 by_cases h2:(s.toList==[123])=true
 ·rw [signB_yes (c:=[123]) (by decide) h2]
  exact sym_2 s w h0 h1 h2
 replace h2:=Bool.eq_false_iff.2 h2
 by_cases h3:(s.toList==[125])=true
 ·rw [signB_yes (c:=[125]) (by decide) h3]
  exact sym_3 s w h0 h1 h2 h3
 replace h3:=Bool.eq_false_iff.2 h3
 by_cases h4:(s.toList==[58])=true
 ·rw [signB_yes (c:=[58]) (by decide) h4]
  exact sym_4 s w h0 h1 h2 h3 h4
 replace h4:=Bool.eq_false_iff.2 h4
 by_cases h5:(s.toList==[60,45])=true
 ·rw [signB_yes (c:=[60,45]) (by decide) h5]
  exact sym_5 s w h0 h1 h2 h3 h4 h5
 replace h5:=Bool.eq_false_iff.2 h5
 have e:signB s.toList=false:=by
  rw [signB,List.any_eq_false]
  intro c hc
  simp only [signWords,List.mem_cons,List.not_mem_nil,or_false] at hc
  rcases hc with rfl | rfl | rfl | rfl | rfl | rfl <;> simp only [h0,h1,h2,h3,h4,h5,Bool.false_eq_true,not_false_eq_true]
 rw [e]
 exact sym_6 s w h0 h1 h2 h3 h4 h5
end Go.Proofs.YtalkinnbfglkdaaGreatDoor.Tok
